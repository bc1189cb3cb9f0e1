/-
  Package disk: maps of ints to whatever values, in memory.
-/
import Derived.Test.YthimgldohhaimabProg
import Derived.Test.YthimgldohhaimabPlain
import Derived.Maps.OwnSet
import Derived.Maps.RangeWalk
import Derived.Lib.Hide
namespace Go.Proofs.Ythimgldohhaimab
open Go.RowKit Go.Maps Go.WideElems

/-- Any value reads, as itself. -/
def rdV (v : Value) : Option (DataW Value × List MemPlace) := some (.held v, [])
def vOf (L : List (Int × Value)) (n : Int) : Option Value := (L.find? (fun a => a.1 == n)).map Prod.snd
def putV (L : List (Int × Value)) (n : Int) (v : Value) : List (Int × Value) := if (vOf L n).isSome then L.map (fun a => if a.1 = n then (n, v) else a) else L ++ [(n, v)]
def delV (L : List (Int × Value)) (n : Int) : List (Int × Value) := L.filter (fun a => a.1 != n)
theorem keyI : Keyed Try.prog 3 := int_keyed Try.underlying3
theorem block_ltD {w : World} {k : Nat} {o : Obj} (h : w.heap[k]? = some o) : k < w.heap.size := by
  rcases Nat.lt_or_ge k w.heap.size with hl | hg
  · exact hl
  · rw [Array.getElem?_eq_none hg] at h; cases h

/-- Block m is a map of these numbers to these values. -/
def MpAt (w : World) (m : Nat) (L : List (Int × Value)) : Prop :=
  ∃ D : DataW Value, w.ownsMap Try.prog 3 rdV m L.length D ∧ Maps.size D = L.length ∧ ∀ n z, D.atKey (.int .i64 n) z = match vOf L n with | some v => .held v | none => z
theorem MpAt.look {w : World} {m : Nat} {L : List (Int × Value)} (h : MpAt w m L) {n : Int} (hw : (Lit.int .i64 n).wf = true) {t e : TypeId} {zv : Value} (ht : Try.prog.underlying t = some (.map 3 e)) (hz : (zeroValue e).run Try.prog w = .ok zv w) (c : Bool) :
    (Instr.lookup t (.map (some m)) (.int .i64 n) c).run Try.prog w = .ok (if c then .tuple #[(vOf L n).getD zv, .bool (vOf L n).isSome] else (vOf L n).getD zv) w := by
  obtain ⟨D, ⟨es, clock, hb, F, _, rfl⟩, _, hat⟩ := h
  rcases Maps.fit_look c keyI ht hz hb F (keyOf_int_mk Try.underlying3 hw) with ⟨hrun, _, h2⟩ | ⟨e0, y, _, _, hrun, hR, h2, _⟩
  · rw [hrun]
    have h3 := hat n .nil
    have h4 := h2 .nil
    rw [h3] at h4
    cases ha : vOf L n with
    | none => rfl
    | some a => rw [ha] at h4; cases h4
  · rw [hrun]
    cases ha : vOf L n with
    | none =>
      have h3 := hat n .nil
      have h4 := hat n (.lit (.bool true))
      rw [h2, ha] at h3 h4
      simp only at h3 h4
      rw [h3] at h4
      cases h4
    | some a =>
      have h3 := hat n .nil
      rw [h2, ha] at h3
      simp only at h3
      have hy : y = (.held e0.val, []) := (Option.some.inj hR).symm
      rw [hy] at h3
      have h5 : e0.val = a := by injection h3
      rw [h5]
      rfl
theorem MpAt.len {w : World} {m : Nat} {L : List (Int × Value)} (h : MpAt w m L) {t e : TypeId} (ht : Try.prog.underlying t = some (.map 3 e)) (ty : TypeId) : (Builtin.len_ #[t] ty #[.map (some m)]).run Try.prog w = .ok (.int .i64 L.length) w := by
  obtain ⟨D, h1, h2, _⟩ := h
  rw [← h2]
  exact h1.len ht ty
theorem own_tightV {w : World} {m n : Nat} {D : DataW Value} (h : w.ownsMap Try.prog 3 rdV m n D) : w.ownsMap Try.prog 3 rdV m (Maps.size D) D := by
  obtain ⟨es, clock, hb, F, hs, rfl⟩ := h
  exact ⟨es, clock, hb, F, by simp [Maps.size, length_sorted], rfl⟩
theorem MpAt.isMap {w : World} {m : Nat} {L : List (Int × Value)} (h : MpAt w m L) : ∃ es clock, w.heap[m]? = some (.map es clock) := by
  obtain ⟨D, ⟨es, clock, h1, h2⟩, h3⟩ := h
  exact ⟨es, clock, h1⟩
theorem MpAt.lt {w : World} {m : Nat} {L : List (Int × Value)} (h : MpAt w m L) : m < w.heap.size := by
  obtain ⟨es, clock, h1⟩ := h.isMap
  exact block_ltD h1
theorem MpAt.kept {w w' : World} {m : Nat} {L : List (Int × Value)} (h : MpAt w m L) (hb : w'.heap[m]? = w.heap[m]?) : MpAt w' m L := by
  obtain ⟨D, ⟨es, clock, h1, h2⟩, h3⟩ := h
  exact ⟨D, ⟨es, clock, hb.trans h1, h2⟩, h3⟩
theorem MpAt.made (w : World) (n : Nat) (hn : w.heap.size = n) : MpAt (w.alloc (.map #[] 0)) n [] := by
  subst hn
  exact ⟨.map [], World.ownsMap_made _ _ _ _, rfl, fun n z => rfl⟩
theorem has_ofV {L : List (Int × Value)} {D : DataW Value} (hat : ∀ n z, D.atKey (.int .i64 n) z = match vOf L n with | some v => .held v | none => z) (n : Int) : Maps.has D (.int .i64 n) = (vOf L n).isSome := by
  cases ha : vOf L n with
  | none => exact Maps.has_false_of_atKey (fun z => by rw [hat, ha])
  | some a => exact Maps.has_true_of_atKey (y := .held a) (fun z => by rw [hat, ha])
theorem vOf_cons (a : Int × Value) (L : List (Int × Value)) (n : Int) : vOf (a :: L) n = if a.1 = n then some a.2 else vOf L n := by
  unfold vOf
  by_cases e : a.1 = n
  · rw [List.find?_cons_of_pos (by simp [e]), if_pos e]; rfl
  · rw [List.find?_cons_of_neg (by simp [e]), if_neg e]
theorem vOf_set (L : List (Int × Value)) (n k : Int) (v : Value) : vOf (L.map (fun a => if a.1 = n then (n, v) else a)) k = if k = n then (if (vOf L n).isSome then some v else none) else vOf L k := by
  induction L with
  | nil => simp [vOf]
  | cons a L ih =>
    rw [List.map_cons, vOf_cons, ih, vOf_cons, vOf_cons]
    by_cases e : a.1 = n
    · rw [if_pos e, if_pos e]
      by_cases ek : k = n
      · subst ek; simp
      · rw [if_neg (fun h => ek h.symm), if_neg ek, if_neg ek, if_neg (fun h => ek (h.symm.trans e))]
    · rw [if_neg e]
      by_cases ek : k = n
      · subst ek
        rw [if_neg e, if_pos rfl, if_pos rfl, if_neg e]
      · rw [if_neg ek, if_neg ek]
theorem vOf_app (L M : List (Int × Value)) (n : Int) : vOf (L ++ M) n = (vOf L n).or (vOf M n) := by
  unfold vOf; rw [List.find?_append]
  cases List.find? (fun a => a.1 == n) L <;> rfl
theorem vOf_put (L : List (Int × Value)) (n k : Int) (v : Value) : vOf (putV L n v) k = if k = n then some v else vOf L k := by
  unfold putV
  split
  · rename_i h
    rw [vOf_set]
    by_cases e : k = n
    · rw [if_pos e, if_pos e, if_pos h]
    · rw [if_neg e, if_neg e]
  · rename_i h
    rw [vOf_app, vOf_cons]
    by_cases e : k = n
    · subst e
      rw [if_pos rfl, if_pos rfl]
      have : vOf L k = none := by cases hh : vOf L k with | none => rfl | some _ => rw [hh] at h; exact absurd rfl h
      rw [this]; rfl
    · rw [if_neg e, if_neg (fun hh => e hh.symm)]
      cases vOf L k <;> rfl
theorem len_put (L : List (Int × Value)) (n : Int) (v : Value) : (putV L n v).length = L.length + (if (vOf L n).isSome then 0 else 1) := by
  unfold putV; split <;> simp
/-- A value more, or another one. -/
theorem MpAt.put {w : World} {m : Nat} {L : List (Int × Value)} (h : MpAt w m L) {n : Int} (v : Value) (hw : (Lit.int .i64 n).wf = true) (hl : L.length < maxLen) {t e : TypeId} (ht : Try.prog.underlying t = some (.map 3 e)) :
    ∃ w', (Instr.mapUpdate t (.map (some m)) (.int .i64 n) v).run Try.prog w = .ok () w' ∧ MpAt w' m (putV L n v) ∧ w.mapTurned w' m := by
  obtain ⟨D, h1, h2, hat⟩ := h
  obtain ⟨w', hrun, hown, htn⟩ := h1.store keyI ht hl (keyOf_int_mk Try.underlying3 hw) (show rdV v = some (.held v, []) from rfl)
  have hsz : Maps.size (D.put (.int .i64 n) (.held v)) = (putV L n v).length := by
    rw [Maps.size_put (h1.tidy keyI), has_ofV hat, len_put, h2]
    split <;> rfl
  refine ⟨w', hrun, ⟨_, by rw [← hsz]; exact own_tightV hown, hsz, fun k z => ?_⟩, htn⟩
  rw [vOf_put]
  by_cases e : k = n
  · subst e
    rw [Maps.atKey_put_same h1.isMap (show WideAt.IsKeyLit (.int .i64 k) from trivial), if_pos rfl]
  · rw [Maps.atKey_put_other (by intro hh; cases hh; exact e rfl), hat, if_neg e]
theorem vOf_del (L : List (Int × Value)) (n k : Int) : vOf (delV L n) k = if k = n then none else vOf L k := by
  unfold delV
  induction L with
  | nil => simp [vOf]
  | cons a L ih =>
    rw [List.filter_cons, vOf_cons]
    by_cases e : a.1 = n
    · rw [if_neg (by simp [e]), ih]
      by_cases ek : k = n
      · rw [if_pos ek, if_pos ek]
      · rw [if_neg ek, if_neg ek, if_neg (fun h => ek (h.symm.trans e))]
    · rw [if_pos (by simp [e]), vOf_cons, ih]
      by_cases ek : k = n
      · subst ek; rw [if_neg e, if_pos rfl, if_pos rfl]
      · rw [if_neg ek, if_neg ek]
theorem vOf_none {L : List (Int × Value)} {n : Int} (h : n ∉ L.map Prod.fst) : vOf L n = none := by
  unfold vOf
  rw [List.find?_eq_none.2 (fun a ha => ?_)]
  · rfl
  · simp
    intro e
    exact h (e ▸ List.mem_map_of_mem ha)
theorem len_del {L : List (Int × Value)} (hd : (L.map Prod.fst).Nodup) (n : Int) : (delV L n).length + (if (vOf L n).isSome then 1 else 0) = L.length := by
  unfold delV
  induction L with
  | nil => rfl
  | cons a L ih =>
    rw [List.map_cons, List.nodup_cons] at hd
    have := ih hd.2
    rw [List.filter_cons, vOf_cons]
    by_cases e : a.1 = n
    · rw [if_neg (by simp [e]), if_pos e]
      rw [vOf_none (by rw [← e]; exact hd.1)] at this
      simp at this ⊢
      omega
    · rw [if_pos (by simp [e]), if_neg e, List.length_cons]
      simp only [List.length_cons] at this ⊢
      omega
theorem MpAt.del {w : World} {m : Nat} {L : List (Int × Value)} (h : MpAt w m L) (n : Int) (hw : (Lit.int .i64 n).wf = true) (hd : (L.map Prod.fst).Nodup) {t e : TypeId} (ht : Try.prog.underlying t = some (.map 3 e)) (ty : TypeId) :
    ∃ w', (Builtin.delete_ #[t, 3] ty #[.map (some m), .int .i64 n]).run Try.prog w = .ok (.tuple #[]) w' ∧ MpAt w' m (delV L n) ∧ w.mapTurned w' m := by
  obtain ⟨D, h1, h2, hat⟩ := h
  obtain ⟨w', hrun, hown, htn⟩ := h1.drop keyI ht (keyOf_int_mk Try.underlying3 hw) ty
  have hsz : Maps.size (D.del (.int .i64 n)) = (delV L n).length := by
    have h3 := Maps.size_del (k := .int .i64 n) (h1.tidy keyI)
    rw [has_ofV hat] at h3
    have h4 := len_del hd n
    omega
  refine ⟨w', hrun, ⟨_, by rw [← hsz]; exact own_tightV hown, hsz, fun k z => ?_⟩, htn⟩
  rw [vOf_del]
  by_cases e : k = n
  · subst e; rw [Maps.atKey_del_same, if_pos rfl]
  · rw [Maps.atKey_del_other (by intro hh; cases hh; exact e rfl), hat, if_neg e]
/-- A loop over a map under way: which are still to come. -/
def RngV (w : World) (m r : Nat) (L : List (Int × Value)) (left : Int → Bool) (cnt : Nat) : Prop :=
  ∃ (D : DataW Value) (leftL : Lit → Bool), w.ranges Try.prog 3 rdV m r L.length D leftL cnt ∧ (∀ n z, D.atKey (.int .i64 n) z = match vOf L n with | some v => .held v | none => z) ∧ ∀ n, leftL (.int .i64 n) = left n
theorem RngV.kept {w w' : World} {m r : Nat} {L : List (Int × Value)} {left : Int → Bool} {cnt : Nat} (h : RngV w m r L left cnt) (h1 : w'.heap[m]? = w.heap[m]?) (h2 : w'.heap[r]? = w.heap[r]?) : RngV w' m r L left cnt := by
  obtain ⟨D, leftL, ⟨es, clock, since, seen, c0, hb, F, hs, hD, hr, rest⟩, h3⟩ := h
  exact ⟨D, leftL, ⟨es, clock, since, seen, c0, h1.trans hb, F, hs, hD, h2.trans hr, rest⟩, h3⟩
theorem RngV.left_eq {w : World} {m r : Nat} {L : List (Int × Value)} {left : Int → Bool} {cnt : Nat} (h : RngV w m r L left cnt) : w.rangeLeft m r = cnt := by
  obtain ⟨D, leftL, h1, _⟩ := h
  exact h1.left_eq
theorem RngV.lt {w : World} {m r : Nat} {L : List (Int × Value)} {left : Int → Bool} {cnt : Nat} (h : RngV w m r L left cnt) : m < w.heap.size ∧ r < w.heap.size ∧ r ≠ m := by
  obtain ⟨D, leftL, h1, _⟩ := h
  exact ⟨h1.owns.lt, h1.lt, h1.ne⟩
theorem wpList_rangeV {ops : Array Oper} {rest : List Oper} {o : Oper} {a : Act} {Q : Exit → Act → World → Prop} (hg : o.guard = none) (x : Operand) {t e : TypeId} (ht : Try.prog.underlying t = some (.map 3 e)) (hop : o.op = Op.range t x) (m : Nat) (L : List (Int × Value)) (w : World) (hm : a.eval x = .map (some m)) (h : MpAt w m L)
    (hK : ∀ w', RngV w' m w.heap.size L (fun n => (vOf L n).isSome) L.length → w.grownBy w' none → w'.heap.size = w.heap.size + 1 → wpList Try.prog ops Q rest (a.put o.dst (.pointer (some ⟨w.heap.size, 0, none⟩))) w') :
    wpList Try.prog ops Q (o :: rest) a w := by
  obtain ⟨D, h1, h2, hat⟩ := h
  exact wpList_range_own w hg x _ hop 3 _ keyI ht rdV m L.length D hm h1 (fun w' hr hgr hs => hK w' ⟨D, _, by rw [h2] at hr; exact hr, hat, fun n => has_ofV hat n⟩ hgr hs)
set_option maxRecDepth 100000 in
theorem wpList_nextV {ops : Array Oper} {rest : List Oper} {o : Oper} {a : Act} {Q : Exit → Act → World → Prop} (hg : o.guard = none) (it : Operand) (hop : o.op = Op.next it false) (m r : Nat) (L : List (Int × Value)) (left : Int → Bool) (cnt : Nat) (w : World) (hit : a.eval it = .pointer (some ⟨r, 0, none⟩)) (h : RngV w m r L left cnt)
    (hDone : (∀ n, left n = false) → wpList Try.prog ops Q rest (a.put o.dst (.tuple #[.bool false])) w)
    (hMore : ∀ (n : Int) (v : Value) (w' : World) (cnt' : Nat), vOf L n = some v → (Lit.int .i64 n).wf = true → left n = true → RngV w' m r L (fun k => left k && k != n) cnt' → cnt' < cnt → w.grownBy w' (some r) → w'.heap.size = w.heap.size → (Instr.entry (.pointer (some ⟨r, 0, none⟩))).run Try.prog w' = .ok (.tuple #[.int .i64 n, v]) w' → wpList Try.prog ops Q rest (a.put o.dst (.tuple #[.bool true, .int .i64 n, v])) w') :
    wpList Try.prog ops Q (o :: rest) a w := by
  obtain ⟨D, leftL, h1, hat, hl⟩ := h
  refine wpList_next_ranges w hg it hop 3 keyI rdV (Value.int .i64) (id : Value → Value) (fun key kl hkey => by obtain ⟨x, rfl, _⟩ := Maps.keyOf_int_inv Try.underlying3 hkey; exact ⟨x, rfl⟩) (fun v y hv => ⟨v, rfl⟩) m r L.length D leftL cnt hit h1 (fun _ hall => hDone (fun n => by rw [← hl]; exact hall _)) ?_
  intro x c kl y w' cnt' hkey hlk hv haty hrg hlt hgr hsz hen
  obtain ⟨x', ex, rfl, hwx⟩ := Maps.keyOf_int_inv Try.underlying3 hkey
  cases ex
  have h3 := haty .nil
  have h4 := haty (.lit (.bool true))
  rw [hat] at h3 h4
  cases ha : vOf L x with
  | none =>
    rw [ha] at h3 h4
    simp only at h3 h4
    rw [← h3] at h4
    cases h4
  | some b =>
    rw [ha] at h3
    simp only at h3
    unfold rdV at hv
    cases hv
    simp only at h3
    injection h3 with h3
    subst h3
    refine hMore x b w' cnt' ha hwx (by rw [← hl]; exact hlk) ⟨D, _, hrg, hat, fun n => ?_⟩ hlt hgr hsz hen
    show (leftL (.int .i64 n) && !(Lit.int .i64 n).sameKey (.int .i64 x)) = (left n && n != x)
    rw [hl]
    have e : (Lit.int .i64 n).sameKey (.int .i64 x) = (n == x) := by
      by_cases e : n = x
      · rw [e, WideAt.sameKey_self (show WideAt.IsKeyLit (.int .i64 x) from trivial)]
        simp
      · rw [Maps.sameKey_ne (by intro hh; cases hh; exact e rfl)]
        exact (beq_eq_false_iff_ne.2 e).symm
    rw [e]
    rfl
end Go.Proofs.Ythimgldohhaimab
