/-
  A region that draws its order, walked by what each operation leaves: facts that may speak of several slots; operations that store into blocks of the region's own.
What the law's examples want: plain facts of fixed expressions, operations, a store into a box of a value.
-/
import Derived.Test.YtpokpiphnggfpaaGreatDoorZ13
section
namespace Go.Proofs.YtpokpiphnggfpaaGreatDoor
section
open Go.RowKit
variable {P : Program} {ops : List Oper}
/-- A fact of what the slots hold. -/
abbrev Fact := (Nat → Value) → World → Prop
/-- A fact speaks of its own slot and of those that it waits for. -/
def Loc (need : List (List Nat)) (k : Nat) (G : Fact) : Prop := ∀ f f' w, (∀ j, j = k ∨ j ∈ need.getD k [] → f j = f' j) → G f w → G f' w
def gAt (Gs : List Fact) (k : Nat) : Fact := Gs.getD k (fun _ _ => True)
structure Inv2 (n : Nat) (ds : List (Option Tmp)) (need : List (List Nat)) (a0 : Act) (w0 : World) (B : Nat) (Gs : List Fact) (listed : Array Bool) (a : Act) (w : World) : Prop where
  defers : a.defers = a0.defers
  size : a.tmps.size = a0.tmps.size
  lsize : listed.size = ds.length
  out : ∀ k, n ≤ k → listed.getD k false = false
  grow : Below B w0 w
  rest : ∀ t, (∀ k, k < n → listed.getD k false = true → ds[k]? ≠ some (some t)) → a.tmps.getD t undef = a0.tmps.getD t undef
  facts : ∀ k, k < n → listed.getD k false = true → gAt Gs k (slotAt ds a) w
  clos : ∀ k, k < n → listed.getD k false = true → ∀ j ∈ need.getD k [], j < n ∧ listed.getD j false = true
/-- What is to be shown of one operation. -/
def StepOk2 (P : Program) (ops : List Oper) (ds : List (Option Tmp)) (need : List (List Nat)) (a0 : Act) (w0 : World) (B : Nat) (Gs : List Fact) (Q : Exit → Act → World → Prop) (n i : Nat) (o : Oper) : Prop :=
  ∀ a w, a.tmps.size = a0.tmps.size → Below B w0 w → (∀ t, (∀ d ∈ ds.take n, d ≠ some t) → a.tmps.getD t undef = a0.tmps.getD t undef) → (∀ j ∈ need.getD i [], gAt Gs j (slotAt ds a) w) →
    (Region.wanted o (yielded ops.toArray a.tmps) = true ∧ o.wp P a w (fun a' w' => ∃ v, a' = a.put o.dst v ∧ Below B w w' ∧ (∀ k, k < n → k ≠ i → gAt Gs k (slotAt ds a) w → gAt Gs k (slotAt ds a) w') ∧ gAt Gs i (slotAt ds (a.put o.dst v)) w') Q) ∨
    (Region.wanted o (yielded ops.toArray a.tmps) = false ∧ gAt Gs i (slotAt ds (a.put o.dst undef)) w)
def Each2 (P : Program) (ops : List Oper) (ds : List (Option Tmp)) (need : List (List Nat)) (a0 : Act) (w0 : World) (B : Nat) (Gs : List Fact) (Q : Exit → Act → World → Prop) (n i : Nat) : Prop :=
  ∀ k, i ≤ k → k < n → ∀ o, ops[k]? = some o → StepOk2 P ops ds need a0 w0 B Gs Q n k o
theorem Each2.nil {ds need a0 w0 B Gs Q n} : Each2 P ops ds need a0 w0 B Gs Q n n := fun k h1 h2 => by omega
theorem Each2.cons {ds need a0 w0 B Gs Q n} {i : Nat} {o : Oper} (ho : ops[i]? = some o) (hs : StepOk2 P ops ds need a0 w0 B Gs Q n i o) (hr : Each2 P ops ds need a0 w0 B Gs Q n (i + 1)) : Each2 P ops ds need a0 w0 B Gs Q n i := by
  intro k h1 h2
  rcases Nat.lt_or_eq_of_le h1 with h | rfl
  · exact hr k h h2
  · intro o' ho'
    rw [ho] at ho'
    cases ho'
    exact hs
/-- All facts speak of what they may. -/
def Locs (need : List (List Nat)) (Gs : List Fact) (n : Nat) : Prop := ∀ k, k < n → Loc need k (gAt Gs k)
theorem inv_end2 {n : Nat} {ds need a0 w0 B Gs} {listed : Array Bool} {a : Act} {w : World} (hap : apartB (ds.take n) a0.tmps.size = true) (hn : n ≤ ds.length) (h : Inv2 n ds need a0 w0 B Gs listed a w) (hall : ∀ k, k < n → listed.getD k false = true) :
    listed = tailL n ds.length ∧ ∃ v : Nat → Value, a = puts (ds.take n) v 0 a0 ∧ (∀ k, (ds[k]?).getD none = none → v k = undef) ∧ ∀ k, k < n → gAt Gs k v w := by
  refine ⟨?_, (fun k : Nat => slotAt ds a k), ?_, fun k hk => (by show slotAt ds a k = undef; unfold slotAt; rw [hk]), fun k hk => h.facts k hk (hall k hk)⟩
  · refine Array.ext (by rw [h.lsize]; simp [tailL]; omega) fun i h1 h2 => ?_
    have e1 : listed[i] = listed.getD i false := by simp [Array.getD_eq_getD_getElem?, h1]
    rw [e1]
    by_cases hi : i < n
    · rw [hall i hi]; simp [tailL, hi]
    · rw [h.out i (by omega)]; simp [tailL, List.getElem_append, hi]
  · refine act_ext ?_ (by rw [puts_defers]; exact h.defers)
    have hsz : a.tmps.size = (puts (ds.take n) (fun k => slotAt ds a k) 0 a0).tmps.size := by rw [puts_size]; exact h.size
    refine Array.ext hsz fun t h1 h2 => ?_
    have e1 : a.tmps[t] = a.tmps.getD t undef := by simp [Array.getD_eq_getD_getElem?, h1]
    have e2 : (puts (ds.take n) (fun k => slotAt ds a k) 0 a0).tmps[t] = (puts (ds.take n) (fun k => slotAt ds a k) 0 a0).tmps.getD t undef := by simp [Array.getD_eq_getD_getElem?, h2]
    rw [e1, e2]
    by_cases hd : ∃ k : Nat, (ds.take n)[k]? = some (some t)
    · obtain ⟨k, hk⟩ := hd
      rw [puts_at _ _ _ _ k t hap hk, Nat.zero_add]
      have hk2 : ds[k]? = some (some t) := by
        rw [List.getElem?_take] at hk
        split at hk
        · exact hk
        · cases hk
      unfold slotAt
      rw [hk2]
      rfl
    · have hno : ∀ d ∈ ds.take n, d ≠ some t := fun d hd2 e => by
        subst e
        obtain ⟨k, hk⟩ := List.getElem?_of_mem hd2
        exact hd ⟨k, hk⟩
      rw [puts_other _ _ _ _ _ hno]
      refine h.rest t fun k hk _ e => hd ⟨k, ?_⟩
      rw [List.getElem?_take, if_pos hk]
      exact e
theorem wpAny_inv2 {n : Nat} {ds : List (Option Tmp)} {need : List (List Nat)} {a0 : Act} {w0 : World} {B : Nat} {Gs : List Fact} {Q : Exit → Act → World → Prop}
    (hds : ops.map (·.dst) = ds) (hn : n ≤ ops.length) (hap : apartB (ds.take n) a0.tmps.size = true) (hneed : needB (afterL ops) need = true) (htail : tailB (afterL ops) need n = true)
    (hloc : Locs need Gs n) (hE : Each2 P ops ds need a0 w0 B Gs Q n 0)
    (hend : ∀ (v : Nat → Value) w, Below B w0 w → (∀ k, (ds[k]?).getD none = none → v k = undef) → (∀ k, k < n → gAt Gs k v w) → wpAny P .any ops.toArray Q (ops.length - n) (tailL n ops.length) (puts (ds.take n) v 0 a0) w) :
    ∀ (m : Nat) (listed : Array Bool) (a : Act) (w : World), Inv2 n ds need a0 w0 B Gs listed a w → cntT listed n + m = n → wpAny P .any ops.toArray Q (m + (ops.length - n)) listed a w := by
  have hdl : ds.length = ops.length := by rw [← hds, List.length_map]
  have hal : (afterL ops).length = ops.length := by simp [afterL]
  have nd : ∀ i, i < ops.length → (∀ j ∈ (afterL ops).getD i [], j < i) ∧ (∀ j ∈ need.getD i [], j ∈ (afterL ops).getD i [] ∨ ∃ m ∈ (afterL ops).getD i [], j ∈ need.getD m []) := by
    intro i hi
    have h := List.all_eq_true.1 hneed i (List.mem_range.2 (by omega))
    simp only [Bool.and_eq_true, List.all_eq_true, decide_eq_true_eq, Bool.or_eq_true, List.any_eq_true, List.contains_iff_mem] at h
    exact ⟨h.1, fun j hj => (h.2 j hj).imp id (fun ⟨m, h1, h2⟩ => ⟨m, h1, h2⟩)⟩
  have tl : ∀ i, n ≤ i → i < ops.length → ∀ k, k < n → k ∈ (afterL ops).getD i [] ∨ k ∈ need.getD i [] := by
    intro i h1 h2 k hk
    have h := List.all_eq_true.1 htail i (List.mem_range.2 (by omega))
    simp only [Bool.or_eq_true, decide_eq_true_eq, List.all_eq_true, List.contains_iff_mem, List.mem_range] at h
    exact h.resolve_left (by omega) k hk
  intro m
  induction m with
  | zero =>
    intro listed a w h hc
    obtain ⟨rfl, v, rfl, hu, hg⟩ := inv_end2 hap (by omega) h (cntT_all (by omega))
    rw [Nat.zero_add, hdl]
    exact hend v w h.grow hu hg
  | succ m ih =>
    intro listed a w h hc
    rw [show m + 1 + (ops.length - n) = (m + (ops.length - n)) + 1 by omega]
    have hleft : ∃ i, i < n ∧ listed.getD i false = false ∧ ∀ j, j < i → listed.getD j false = true := by
      have hex : ∃ i, i < n ∧ listed.getD i false = false := by
        refine Classical.byContradiction fun hno => ?_
        have : cntT listed n = n := by
          unfold cntT
          have : (List.range n).countP (fun k => listed.getD k false) = (List.range n).length := List.countP_eq_length.2 fun k hk => by
            cases hv : listed.getD k false with
            | true => rfl
            | false => exact absurd ⟨k, List.mem_range.1 hk, hv⟩ hno
          rw [this, List.length_range]
        omega
      obtain ⟨i0, h0, h1⟩ := hex
      clear h
      induction i0 using Nat.strongRecOn with
      | _ i0 ih2 =>
        by_cases hl : ∃ j, j < i0 ∧ listed.getD j false = false
        · obtain ⟨j, hj, hf⟩ := hl
          exact ih2 j hj (by omega) hf
        · exact ⟨i0, h0, h1, fun j hj => by
            cases hv : listed.getD j false with
            | true => rfl
            | false => exact absurd ⟨j, hj, hv⟩ hl⟩
    have hgt : ∀ k, k < ops.length → listed.getD k true = listed.getD k false := fun k hk => by
      have := h.lsize
      simp [Array.getD_eq_getD_getElem?, show k < listed.size by omega]
    refine ⟨fun hr => ?_, fun i hi => ?_⟩
    · obtain ⟨i, hin, hf, hj⟩ := hleft
      have : i ∈ Region.ready .any ops.toArray listed := ready_mem.2 ⟨by omega, by rw [hgt i (by omega)]; exact hf, fun j hj' => hj j ((nd i (by omega)).1 j hj')⟩
      rw [hr] at this
      cases this
    · obtain ⟨hil, hif, hia⟩ := ready_mem.1 hi
      rw [hgt i hil] at hif
      have hin : i < n := by
        refine Classical.byContradiction fun hge => ?_
        obtain ⟨j, hjn, hjf, _⟩ := hleft
        have hjt : listed.getD j false = true := by
          rcases tl i (by omega) hil j hjn with h1 | h1
          · exact hia j h1
          · rcases (nd i hil).2 j h1 with h2 | ⟨m', h2, h3⟩
            · exact hia j h2
            · have hm' : m' < n := Classical.byContradiction fun hge2 => by
                have := hia m' h2
                rw [h.out m' (by omega)] at this
                cases this
              exact (h.clos m' hm' (hia m' h2) j h3).2
        rw [hjt] at hjf
        cases hjf
      have ho : ops[i]? = some ops[i] := List.getElem?_eq_getElem hil
      have hdi : ds[i]? = some ops[i].dst := by rw [← hds, List.getElem?_map, ho]; rfl
      have hdt : ∀ k, k < n → (ds.take n)[k]? = ds[k]? := fun k hk => by rw [List.getElem?_take, if_pos hk]
      have hneedi : ∀ j ∈ need.getD i [], j < n ∧ listed.getD j false = true := fun j hj => by
        rcases (nd i hil).2 j hj with h1 | ⟨m', h1, h2⟩
        · exact ⟨by have := (nd i hil).1 j h1; omega, hia j h1⟩
        · exact h.clos m' (by have := (nd i hil).1 m' h1; omega) (hia m' h1) j h2
      have hs := hE i (Nat.zero_le _) hin
      have hstep := hs _ ho a w h.size h.grow (fun t ht => h.rest t fun k hk _ e => ht (some t) (List.mem_of_getElem? (by rw [hdt k hk]; exact e)) rfl) (fun j hj => h.facts j (hneedi j hj).1 (hneedi j hj).2)
      have next : ∀ v w', Below B w w' → (∀ k, k < n → k ≠ i → gAt Gs k (slotAt ds a) w → gAt Gs k (slotAt ds a) w') → gAt Gs i (slotAt ds (a.put ops[i].dst v)) w' → wpAny P .any ops.toArray Q (m + (ops.length - n)) (listed.setIfInBounds i true) (a.put ops[i].dst v) w' := by
        intro v w' hR hkp hG
        have hls : i < listed.size := by rw [h.lsize]; omega
        refine ih _ _ _ ⟨by rw [put_defers]; exact h.defers, by rw [put_size]; exact h.size, by rw [Array.size_setIfInBounds]; exact h.lsize, fun k hk => ?_, h.grow.trans hR, fun t ht => ?_, fun k hk hkl => ?_, fun k hk hkl j hj => ?_⟩ ?_
        · rw [getD_set_ne _ (by omega)]; exact h.out k hk
        · have hne : ops[i].dst ≠ some t := fun e => ht i hin (getD_set_eq _ hls) (by rw [hdi, e])
          rw [put_get _ _ _ _ hne]
          refine h.rest t fun k hk hkl => ht k hk ?_
          by_cases hki : k = i
          · subst hki; exact getD_set_eq _ hls
          · rw [getD_set_ne _ hki]; exact hkl
        · by_cases hki : k = i
          · subst hki; exact hG
          · rw [getD_set_ne _ hki] at hkl
            refine hloc k hk _ _ _ (fun j hj => ?_) (hkp k hk hki (h.facts k hk hkl))
            have hjn : j < n ∧ j ≠ i := by
              rcases hj with rfl | hj
              · exact ⟨hk, hki⟩
              · obtain ⟨h1, h2⟩ := h.clos k hk hkl j hj
                exact ⟨h1, fun e => by rw [e, hif] at h2; cases h2⟩
            unfold slotAt
            cases hd : (ds[j]?).getD none with
            | none => rfl
            | some t =>
              refine (put_get _ _ _ _ fun e => hjn.2 ?_).symm
              have hk2 : ds[j]? = some (some t) := by
                cases hq : ds[j]? with
                | none => rw [hq] at hd; cases hd
                | some x => rw [hq] at hd; simp at hd; rw [hd]
              exact apart_ne _ _ j i t hap (by rw [hdt j hjn.1]; exact hk2) (by rw [hdt i hin, hdi, e])
        · have hj2 : j < n ∧ listed.getD j false = true := by
            by_cases hki : k = i
            · subst hki; exact hneedi j hj
            · rw [getD_set_ne _ hki] at hkl; exact h.clos k hk hkl j hj
          refine ⟨hj2.1, ?_⟩
          by_cases hji : j = i
          · rw [hji]; exact getD_set_eq _ hls
          · rw [getD_set_ne _ hji]; exact hj2.2
        · rw [cntT_set _ _ hls hif, if_pos hin]; omega
      unfold wpOp
      simp only [List.getElem?_toArray, ho]
      rcases hstep with ⟨hw, hwp⟩ | ⟨hw, hg⟩
      · rw [if_pos hw]
        refine .inl (Oper.wp_mono ?_ hwp)
        rintro a' w' ⟨v, rfl, hR, hkp, hG⟩
        exact next v w' hR hkp hG
      · rw [if_neg (by rw [hw]; simp)]
        exact next undef w (Below.refl _ _) (fun _ _ _ h => h) hg
/-- THE LAW. -/
theorem wp_region_inv2 {id : Nat} {n : Nat} {ds : List (Option Tmp)} {need : List (List Nat)} {a0 : Act} {w : World} {B : Nat} {Gs : List Fact} {Q : Exit → Act → World → Prop}
    (hm : P.follows .mixedOrders = true) (hds : ops.map (·.dst) = ds) (hn : n ≤ ops.length) (hap : apartB (ds.take n) a0.tmps.size = true) (hneed : needB (afterL ops) need = true) (htail : tailB (afterL ops) need n = true)
    (hloc : Locs need Gs n) (hE : Each2 P ops ds need a0 w.drew B Gs Q n 0)
    (hend : ∀ (v : Nat → Value) w', Below B w.drew w' → (∀ k, (ds[k]?).getD none = none → v k = undef) → (∀ k, k < n → gAt Gs k v w') → wpAny P .any ops.toArray Q (ops.length - n) (tailL n ops.length) (puts (ds.take n) v 0 a0) w') :
    (Code.region id ops.toArray true).wp P Q a0 w := by
  refine wp_region_any hm ?_
  have hdl : ds.length = ops.length := by rw [← hds, List.length_map]
  have hz : ∀ k, (Array.replicate ops.length false).getD k false = false := fun k => by
    simp only [Array.getD_eq_getD_getElem?, Array.getElem?_replicate]
    split <;> rfl
  have h := wpAny_inv2 (P := P) hds hn hap hneed htail hloc hE hend n (Array.replicate ops.length false) a0 w.drew
    ⟨rfl, rfl, by rw [Array.size_replicate, hdl], fun k _ => hz k, Below.refl _ _, fun _ _ => rfl, fun k _ hk => (by rw [hz] at hk; cases hk), fun k _ hk => (by rw [hz] at hk; cases hk)⟩
    (by
      have : cntT (Array.replicate ops.length false) n = 0 := by
        unfold cntT
        exact List.countP_eq_zero.2 fun k _ => by rw [hz]; simp
      omega)
  rw [show n + (ops.length - n) = ops.length by omega] at h
  exact h
/-- A fact of its own slot alone. -/
abbrev own1 (k : Nat) (g : Value → World → Prop) : Fact := fun f w => g (f k) w
theorem Loc.own1 {need : List (List Nat)} {k : Nat} {g : Value → World → Prop} : Loc need k (own1 k g) := fun f f' w h hg => by
  have := h k (.inl rfl)
  show g (f' k) w
  rw [← this]; exact hg
/-- A fact that holds on behind what leaves old blocks alone. -/
def KeepF (G : Fact) : Prop := ∀ f w w', Bel w w' → G f w → G f w'
theorem KeepF.own1 {k : Nat} {g : Value → World → Prop} (h : Keeps Bel g) : KeepF (own1 k g) := fun _ _ _ hb hg => h _ _ _ hb hg
variable {ds : List (Option Tmp)} {need : List (List Nat)} {a0 : Act} {w0 : World} {B : Nat} {Gs : List Fact} {Q : Exit → Act → World → Prop}
/-- An operation that leaves old blocks alone. -/
theorem StepOk2.plain {n i : Nat} {o : Oper} {t : Tmp} {g : Value → World → Prop} (hg : gAt Gs i = own1 i g) (hgd : o.guard = none) (hd : o.dst = some t) (hdi : ds[i]? = some (some t)) (ht : t < a0.tmps.size) (hB : B ≤ w0.heap.size) (hK : ∀ k, k < n → KeepF (gAt Gs k))
    (h : ∀ a w, a.tmps.size = a0.tmps.size → Below B w0 w → (∀ t, (∀ d ∈ ds.take n, d ≠ some t) → a.tmps.getD t undef = a0.tmps.getD t undef) → (∀ j ∈ need.getD i [], gAt Gs j (slotAt ds a) w) →
      o.wp P a w (fun a' w' => ∃ v, a' = a.put o.dst v ∧ Bel w w' ∧ g v w') Q) : StepOk2 P ops ds need a0 w0 B Gs Q n i o := by
  intro a w h1 h2 h3 h4
  refine .inl ⟨by unfold Region.wanted; rw [hgd], Oper.wp_mono (fun a' w' ⟨v, e, r, hv⟩ => ⟨v, e, r.mono (Nat.le_trans hB h2.size), fun k hk _ hkk => hK k hk _ _ _ r hkk, ?_⟩) (h a w h1 h2 h3 h4)⟩
  rw [hg]
  show g (slotAt ds (a.put o.dst v) i) w'
  have : slotAt ds (a.put o.dst v) i = v := by
    unfold slotAt
    rw [hdi, hd]
    exact put_at _ _ _ (by rw [h1]; exact ht)
  rw [this]
  exact hv
/-- An operation that stores. -/
theorem StepOk2.store {n i : Nat} {o : Oper} (hgd : o.guard = none) (hd : o.dst = none)
    (h : ∀ a w, a.tmps.size = a0.tmps.size → Below B w0 w → (∀ t, (∀ d ∈ ds.take n, d ≠ some t) → a.tmps.getD t undef = a0.tmps.getD t undef) → (∀ j ∈ need.getD i [], gAt Gs j (slotAt ds a) w) →
      ∃ w', (execOp a.eval o).run P w = .ok .skip w' ∧ Below B w w' ∧ (∀ k, k < n → k ≠ i → gAt Gs k (slotAt ds a) w → gAt Gs k (slotAt ds a) w') ∧ gAt Gs i (slotAt ds a) w') : StepOk2 P ops ds need a0 w0 B Gs Q n i o := by
  intro a w h1 h2 h3 h4
  obtain ⟨w', hr, hb, hk, hg⟩ := h a w h1 h2 h3 h4
  refine .inl ⟨by unfold Region.wanted; rw [hgd], ?_⟩
  unfold Oper.wp
  rw [hr]
  exact ⟨undef, by rw [hd], hb, hk, by rw [hd]; exact hg⟩
end
end Go.Proofs.YtpokpiphnggfpaaGreatDoor
end
section
namespace Go.Proofs.YtpokpiphnggfpaaGreatDoor
open Go.RowKit Go.Shelf
attribute [local go_sem] Oper.semAt_some

abbrev eS : ByteArray := ⟨#[]⟩
abbrev hdC1 : Hd := ⟨2, 1, 0, 0, ⟨#[]⟩, ⟨#[]⟩, ⟨#[97]⟩⟩
abbrev cE : Ex := .mk hdC1 []
abbrev nE (n : Int) : Ex := .mk (hdL 2 n ⟨#[]⟩) []
abbrev oE (n : Int) (a b : Ex) : Ex := .mk (hdO n) [a, b]
abbrev rL : List Va := [⟨0, 0, ⟨#[]⟩⟩, ⟨2, -7, ⟨#[]⟩⟩]
abbrev badE : Ex := oE 4 (oE 13 (nE 1) (nE 0)) (nE 1)
abbrev noE : Ex := oE 6 (nE 2) (nE 1)
theorem rL_fine : Fine rL := by
  intro v hv
  simp only [List.mem_cons, List.mem_nil_iff, or_false] at hv
  rcases hv with rfl | rfl <;> decide
theorem zS (n : Nat) : (⟨#[]⟩ : ByteArray).size ≤ n := Nat.zero_le n
theorem smN (n : Int) : AllSm (nE n) := by
  simp only [AllSm, AllSmL, and_true]
  exact ⟨zS _, zS _, zS _⟩
theorem smC : AllSm cE := by
  simp only [AllSm, AllSmL, and_true]
  exact ⟨by decide, by decide, by decide⟩
theorem smO {n : Int} {a b : Ex} (ha : AllSm a) (hb : AllSm b) : AllSm (oE n a b) := by
  simp only [AllSm, AllSmL, and_true]
  exact ⟨⟨zS _, zS _, zS _⟩, ha, hb⟩
theorem evDiv : ev2 rL (oE 13 cE (nE 2)) = .tuple #[VV 2 (-3) ⟨#[]⟩, .int .i64 0] := by kernel_rfl
theorem evMod : ev2 rL (oE 14 cE (nE 2)) = .tuple #[VV 2 (-1) ⟨#[]⟩, .int .i64 0] := by kernel_rfl
theorem evZero : ev2 rL (oE 13 cE (nE 0)) = .tuple #[VV 0 0 ⟨#[]⟩, .int .i64 160] := by kernel_rfl
theorem evAnd : ev2 rL (oE 2 noE badE) = .tuple #[VV 1 0 ⟨#[]⟩, .int .i64 0] := by kernel_rfl
theorem hoAnd : ho2 rL (oE 2 badE noE) = .tuple #[.bool false, .int .i64 0] := by kernel_rfl
theorem hoBad : ho2 rL badE = .tuple #[.bool false, .int .i64 160] := by kernel_rfl
theorem evAgg : ev2 rL (.mk (hdA 1) []) = .tuple #[VV 0 0 ⟨#[]⟩, .int .i64 1] := by kernel_rfl
theorem evC : ev2 rL cE = .tuple #[VV 2 (-7) ⟨#[]⟩, .int .i64 0] := by kernel_rfl
theorem evThree : ev2 rL (nE 3) = .tuple #[VV 2 3 ⟨#[]⟩, .int .i64 0] := by kernel_rfl
theorem sfBad : safeB badE = false := by kernel_rfl
theorem sfNo : safeB noE = true := by kernel_rfl
theorem rv_eval {x : Ex} {v : Value} {w : World} {Ar : Option Addr} {rc : Nat} (h : EV x v w) (hsm : AllSm x) (hc : cnt x ≤ 999999) (hR : RowAt w Ar rL) (hV : TabV w) (hT : Tabs w) {c : Value} (e : ev2 rL x = c) :
    Calls Tryz.prog 12 #[v, .slice Ar 2 rc] w fun e w' => ∃ u, e = .returned u ∧ Bel w w' ∧ u = c := by
  obtain ⟨hd, l⟩ := x
  obtain ⟨A, cap, rfl, hl, hx⟩ := h
  refine (eval_any rL Ar rc (by decide) rL_fine hd l A cap w hx hl hsm hc hR hV hT).mono ?_
  rintro _ w' ⟨rfl, hb⟩
  exact ⟨_, rfl, hb, e⟩
theorem rv_holds {x : Ex} {v : Value} {w : World} {Ar : Option Addr} {rc : Nat} (h : EV x v w) (hsm : AllSm x) (hc : cnt x ≤ 999999) (hR : RowAt w Ar rL) (hV : TabV w) (hT : Tabs w) {c : Value} (e : ho2 rL x = c) :
    Calls Tryz.prog 7 #[v, .slice Ar 2 rc] w fun e w' => ∃ u, e = .returned u ∧ Bel w w' ∧ u = c := by
  obtain ⟨hd, l⟩ := x
  obtain ⟨A, cap, rfl, hl, hx⟩ := h
  refine (holds_any rL Ar rc (by decide) rL_fine hd l A cap w hx hl hsm hc hR hV hT).mono ?_
  rintro _ w' ⟨rfl, hb⟩
  exact ⟨_, rfl, hb, e⟩
theorem rv_errs {x : Ex} {v : Value} {w : World} (h : EV x v w) (hsm : AllSm x) (hc : cnt x ≤ 999999) (hT : Tabs w) {c : Bool} (e : safeB x = c) :
    Calls Tryz.prog 18 #[v] w fun e w' => ∃ u, e = .returned u ∧ Bel w w' ∧ u = .bool (!c) := by
  obtain ⟨hd, l⟩ := x
  obtain ⟨A, cap, rfl, hl, hx⟩ := h
  refine (errs_any hd l A cap w hx hl hsm hc hT).mono ?_
  rintro _ w' ⟨rfl, hb⟩
  exact ⟨_, rfl, hb, by rw [e]⟩
/-- A box of a value and the blocks of an expression are apart. -/
theorem XsB.off3 {B : Nat → Prop} {w : World} {u : Nat} {k n : Int} {s : ByteArray} (hu : w.heap[u]? = some (vbox k n s)) : ∀ (l : List Ex) (A : Option Addr), XsB B w l A → XsB (fun k => B k ∧ k ≠ u) w l A
  | [], _, _ => by rw [XsB]; trivial
  | .mk h l :: r, A, H => by
    rw [XsB] at H ⊢
    obtain ⟨g, o, e, hg, ⟨A', cap, hc, hl, h1⟩, h2⟩ := H
    refine ⟨g, o, e, ⟨hg, fun e2 => ?_⟩, ⟨A', cap, hc, hl, XsB.off3 hu l A' h1⟩, XsB.off3 hu r _ h2⟩
    subst e2
    have h7 := hc.c7
    simp only [World.cell?, hu] at h7
    rw [Array.getElem?_eq_none (by simp)] at h7
    cases h7
abbrev put3 (w : World) (u : Nat) (k n : Int) (s : ByteArray) : World := ((w.setCell ⟨u, 0, none⟩ (.int .i64 k)).setCell ⟨u, 1, none⟩ (.int .i64 n)).setCell ⟨u, 2, none⟩ (.string s)
theorem put3_heap {w : World} {u : Nat} {k n : Int} {s : ByteArray} (h : w.heap[u]? = some (vbox k n s)) (k' n' : Int) (s' : ByteArray) : (put3 w u k' n' s').heap[u]? = some (vbox k' n' s') := by
  simp only [World.setCell, Array.getElem?_modify, if_true, h]
  rfl
theorem put3_other {w : World} {u j : Nat} (h : j ≠ u) (k' n' : Int) (s' : ByteArray) : (put3 w u k' n' s').heap[j]? = w.heap[j]? := by
  rw [setc_other h, setc_other h, setc_other h]
theorem put3_size (w : World) (u : Nat) (k' n' : Int) (s' : ByteArray) : (put3 w u k' n' s').heap.size = w.heap.size := by simp [World.setCell]
theorem EV.put3 {x : Ex} {v : Value} {w : World} {u : Nat} {k n : Int} {s : ByteArray} (h : EV x v w) (hu : w.heap[u]? = some (vbox k n s)) (k' n' : Int) (s' : ByteArray) : EV x v (put3 w u k' n' s') := by
  obtain ⟨A, cap, e, hl, hx⟩ := h
  refine ⟨A, cap, e, hl, ?_⟩
  have := XsB.off3 hu _ _ hx
  exact XsB.go (fun j hj => put3_other hj.2 _ _ _) (fun j hj => by rw [put3_size]; exact hj.1) _ _ this
theorem LV.put3 {l : List Ex} {v : Value} {w : World} {u : Nat} {k n : Int} {s : ByteArray} (h : LV l v w) (hu : w.heap[u]? = some (vbox k n s)) (k' n' : Int) (s' : ByteArray) : LV l v (put3 w u k' n' s') := by
  obtain ⟨A, cap, e, hl, hx⟩ := h
  refine ⟨A, cap, e, hl, ?_⟩
  have := XsB.off3 hu _ _ hx
  exact XsB.go (fun j hj => put3_other hj.2 _ _ _) (fun j hj => by rw [put3_size]; exact hj.1) _ _ this
theorem bx_of {w : World} {u : Nat} {k n : Int} {s : ByteArray} (h : w.heap[u]? = some (vbox k n s)) : Bx w u k n s :=
  ⟨by simp only [World.cell?, h]; rfl, by simp only [World.cell?, h]; rfl, by simp only [World.cell?, h]; rfl, by simp only [World.frozen?, h]; rfl, by simp only [World.frozen?, h]; rfl, by simp only [World.frozen?, h]; rfl⟩
section
variable {o : Oper} {a : Act} {w : World}
theorem run_alloc3 (ho : o.op = .alloc 28) : (execOp a.eval o).run Tryz.prog w = .ok (.value (.pointer (some ⟨w.heap.size, 0, none⟩))) (w.alloc (vbox 0 0 ⟨#[]⟩)) := by
  unfold execOp
  simp only [ho]
  go_simp
theorem run_st3 {x y : Operand} (ho : o.op = .store 28 x y) {u : Nat} {k n k' n' : Int} {s s' : ByteArray} (hx : a.eval x = .pointer (some ⟨u, 0, none⟩)) (hy : a.eval y = VV k' n' s') (hb : Bx w u k n s) :
    (execOp a.eval o).run Tryz.prog w = .ok .skip (put3 w u k' n' s') := by
  obtain ⟨c0, c1, c2, f0, f1, f2⟩ := hb
  unfold execOp
  simp only [ho, hx, hy]
  go_simp
theorem run_ldVm {x : Operand} (ho : o.op = .load 28 x) {u p : Nat} {k n : Int} {s : ByteArray} (hx : a.eval x = .pointer (some ⟨u, p, none⟩)) (c0 : w.cell? ⟨u, p, none⟩ = some (.int .i64 k)) (c1 : w.cell? ⟨u, p + 1, none⟩ = some (.int .i64 n)) (c2 : w.cell? ⟨u, p + 2, none⟩ = some (.string s)) :
    (execOp a.eval o).run Tryz.prog w = .ok (.value (VV k n s)) w := by
  have hr : w.rangeAt u p [.int .i64 k, .int .i64 n, .string s] := by
    intro j v hj
    match j, hj with
    | 0, hj => obtain rfl := Option.some.inj hj; exact c0
    | 1, hj => obtain rfl := Option.some.inj hj; exact c1
    | 2, hj => obtain rfl := Option.some.inj hj; exact c2
    | j + 3, hj => simp at hj
  unfold execOp
  simp only [ho, hx]
  rw [Sem.run_bind, run_loadAt_mid w u p 28 _ _ hr Tryz.underlying28 rfl (by kernel_rfl)]
  rfl
theorem run_ixV1 {x : Operand} (ho : o.op = .indexAddr 23 x (.const (.int .i64 1))) {g p c : Nat} (hx : a.eval x = .slice (some ⟨g, p, none⟩) 2 c) : (execOp a.eval o).run Tryz.prog w = .ok (.value (.pointer (some ⟨g, p + 3, none⟩))) w := by
  have h : (Instr.indexAt 23 (.slice (some ⟨g, p, none⟩) 2 c) (.int .i64 1)).run Tryz.prog w = .ok (.pointer (some ⟨g, p + 3, none⟩)) w := by go_simp
  unfold execOp
  simp only [ho, hx, eval_const]
  rw [Sem.run_bind, h]
  rfl
theorem run_fdV1 {x : Operand} (ho : o.op = .fieldAddr 28 x 1) {u p : Nat} (hx : a.eval x = .pointer (some ⟨u, p, none⟩)) : (execOp a.eval o).run Tryz.prog w = .ok (.value (.pointer (some ⟨u, p + 1, none⟩))) w := by
  have h : (Instr.fieldAt 28 (.pointer (some ⟨u, p, none⟩)) 1).run Tryz.prog w = .ok (.pointer (some ⟨u, p + 1, none⟩)) w := by go_simp
  unfold execOp
  simp only [ho, hx]
  rw [Sem.run_bind, h]
  rfl
theorem run_ldI {x : Operand} (ho : o.op = .load 3 x) {u p : Nat} {n : Int} (hx : a.eval x = .pointer (some ⟨u, p, none⟩)) (hc : w.cell? ⟨u, p, none⟩ = some (.int .i64 n)) : (execOp a.eval o).run Tryz.prog w = .ok (.value (.int .i64 n)) w := by
  have h : (Instr.loadAt 3 (.pointer (some ⟨u, p, none⟩))).run Tryz.prog w = .ok (.int .i64 n) w := by go_simp
  unfold execOp
  simp only [ho, hx]
  rw [Sem.run_bind, h]
  rfl
theorem run_zeroV (ho : o.op = .build 28 #[]) : (execOp a.eval o).run Tryz.prog w = .ok (.value (VV 0 0 ⟨#[]⟩)) w := by
  unfold execOp
  simp only [ho]
  go_simp
/-- A list of three values of one's own making. -/
def Three (p q r : Va) (v : Value) (w : World) : Prop := ∃ g, v = .slice (some ⟨g, 0, none⟩) 3 3 ∧ RowAt w (some ⟨g, 0, none⟩) [p, q, r]
theorem Three.keeps (p q r : Va) : Keeps Bel (Three p q r) := fun _ _ _ hb ⟨g, e, h⟩ => ⟨g, e, h.kept hb⟩
theorem bs3_run (p q r : Va) : (Instr.buildSlice 23 3 #[(0, VV p.k p.n p.s), (1, VV q.k q.n q.s), (2, VV r.k r.n r.s)]).run Tryz.prog w = .ok (.slice (some ⟨w.heap.size, 0, none⟩) 3 3) (w.alloc (.cells (rcells [p, q, r]).toArray 28)) := by
  go_simp
  rfl
theorem three_made (p q r : Va) : Three p q r (.slice (some ⟨w.heap.size, 0, none⟩) 3 3) (w.alloc (.cells (rcells [p, q, r]).toArray 28)) := by
  have hn := (MapKept.heap_alloc w (.cells (rcells [p, q, r]).toArray 28)).1
  refine ⟨_, rfl, .inr ⟨_, 0, rfl, by simp, fun i v hv => ?_⟩⟩
  simp only [World.cell?, hn]
  match i, hv with
  | 0, hv => obtain rfl := Option.some.inj hv; exact ⟨rfl, rfl, rfl⟩
  | 1, hv => obtain rfl := Option.some.inj hv; exact ⟨rfl, rfl, rfl⟩
  | 2, hv => obtain rfl := Option.some.inj hv; exact ⟨rfl, rfl, rfl⟩
  | i + 3, hv => simp at hv
theorem wp_bs3 {Q : Exit → Act → World → Prop} {x y z : Operand} (ho : o.op = .buildSlice 23 3 #[(0, x), (1, y), (2, z)]) {p q r : Va} (hx : a.eval x = VV p.k p.n p.s) (hy : a.eval y = VV q.k q.n q.s) (hz : a.eval z = VV r.k r.n r.s) :
    o.wp Tryz.prog a w (fun a' w' => ∃ v, a' = a.put o.dst v ∧ Bel w w' ∧ Three p q r v w') Q := by
  have hr : (execOp a.eval o).run Tryz.prog w = .ok (.value (.slice (some ⟨w.heap.size, 0, none⟩) 3 3)) (w.alloc (.cells (rcells [p, q, r]).toArray 28)) := by
    unfold execOp
    simp only [ho, List.map_toArray, List.map_cons, List.map_nil, hx, hy, hz]
    rw [Sem.run_bind, bs3_run]
    rfl
  exact wp_made hr (three_made p q r)
theorem falses_eq (w : World) : (binOp .eql 28 (VV 1 0 ⟨#[]⟩) (VV 1 0 ⟨#[]⟩)).run Tryz.prog w = .ok (.bool true) w := by
  have u3 := Tryz.underlying3
  have a3 := Tryz.isAgg3
  have z3 := Tryz.sizeOf3
  have u9 := Tryz.underlying9
  have a9 := Tryz.isAgg9
  have z9 := Tryz.sizeOf9
  have hS : Tryz.prog.underlying 28 = some (.struct (Tryz.prog.fieldsOf 28)) := by kernel_rfl
  have hp : Tryz.prog.stoodInHeld 28 = false := by kernel_rfl
  rw [run_eql_struct, show (10000 : Nat) = 9999 + 1 from rfl, run_equalIn_agg w 9999 28 _ _ hS hp]
  simp only [Program.fieldsOf, Tryz.underlying28]
  go_simp
end
theorem rv_fold {v : Value} {w : World} (h : Three ⟨2, -7, ⟨#[]⟩⟩ nullA ⟨2, 9, ⟨#[]⟩⟩ v w) :
    Calls Tryz.prog 15 #[.int .i64 3, v] w fun e w' => ∃ u, e = .returned u ∧ Bel w w' ∧ u = .tuple #[VV 2 2 ⟨#[]⟩, .int .i64 0] := by
  obtain ⟨g, rfl, hr⟩ := h
  refine (fold_three ⟨2, -7, ⟨#[]⟩⟩ ⟨2, 9, ⟨#[]⟩⟩ ⟨2, 2, ⟨#[]⟩⟩ (some ⟨g, 0, none⟩) 3 w hr (zS _) (zS _) rfl rfl (by kernel_rfl) (by kernel_rfl) (by kernel_rfl)).mono ?_
  rintro _ w' ⟨rfl, hb⟩
  exact ⟨_, rfl, hb, rfl⟩
/-- What Row answers here. -/
def RowT (u : Value) (w : World) : Prop := ∃ g c, u = .tuple #[.slice (some ⟨g, 0, none⟩) 2 c, .int .i64 0] ∧ RowAt w (some ⟨g, 0, none⟩) [⟨2, -7, ⟨#[]⟩⟩, ⟨2, 3, ⟨#[]⟩⟩]
theorem RowT.keeps : Keeps Bel RowT := fun _ _ _ hb ⟨g, c, e, h⟩ => ⟨g, c, e, h.kept hb⟩
def RowS (u : Value) (w : World) : Prop := ∃ g c, u = .slice (some ⟨g, 0, none⟩) 2 c ∧ RowAt w (some ⟨g, 0, none⟩) [⟨2, -7, ⟨#[]⟩⟩, ⟨2, 3, ⟨#[]⟩⟩]
theorem RowS.keeps : Keeps Bel RowS := fun _ _ _ hb ⟨g, c, e, h⟩ => ⟨g, c, e, h.kept hb⟩
theorem rv_row {v : Value} {w : World} {Ar : Option Addr} {rc : Nat} (h : LV [cE, nE 3] v w) (hR : RowAt w Ar rL) (hV : TabV w) (hT : Tabs w) :
    Calls Tryz.prog 16 #[v, .slice Ar 2 rc] w fun e w' => ∃ u, e = .returned u ∧ Bel w w' ∧ RowT u w' := by
  obtain ⟨A, cap, rfl, _, hx⟩ := h
  refine (row_all rL Ar rc (by decide) rL_fine [cE, nE 3] [⟨2, -7, ⟨#[]⟩⟩, ⟨2, 3, ⟨#[]⟩⟩] A cap w hx (by decide) rfl (fun i x hi => ?_) (fun i x v hi hv => ?_) hR hV hT).mono ?_
  · match i, hi with
    | 0, hi => obtain rfl := Option.some.inj hi; exact ⟨smC, by decide⟩
    | 1, hi => obtain rfl := Option.some.inj hi; exact ⟨smN _, by decide⟩
    | i + 2, hi => simp at hi
  · match i, hi, hv with
    | 0, hi, hv => obtain rfl := Option.some.inj hi; obtain rfl := Option.some.inj hv; exact evC
    | 1, hi, hv => obtain rfl := Option.some.inj hi; obtain rfl := Option.some.inj hv; exact evThree
    | i + 2, hi, _ => simp at hi
  · rintro _ w' ⟨u, rfl, hown, hb⟩
    obtain ⟨g, cap, rfl, _, _⟩ := hown.form (by decide)
    refine ⟨_, rfl, hb, g, cap, rfl, .inr ⟨g, 0, rfl, ?_, fun i v hv => ?_⟩⟩
    · exact (World.ownsRow.lt hown g rfl).2
    · match i, hv with
      | 0, hv => obtain rfl := Option.some.inj hv; exact ⟨hown.cellAt 0 (by decide), hown.cellAt 1 (by decide), hown.cellAt 2 (by decide)⟩
      | 1, hv => obtain rfl := Option.some.inj hv; exact ⟨hown.cellAt 3 (by decide), hown.cellAt 4 (by decide), hown.cellAt 5 (by decide)⟩
      | i + 2, hv => simp at hv
end Go.Proofs.YtpokpiphnggfpaaGreatDoor
end
