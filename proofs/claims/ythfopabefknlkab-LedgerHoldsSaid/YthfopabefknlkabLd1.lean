/-
  Package ledger: accounts in memory; a map of ints to their blocks.
-/
import Derived.Test.YthfopabefknlkabProg
import Derived.Test.YthfopabefknlkabPlain
import Derived.Maps.OwnSet
import Derived.Maps.RangeWalk
import Derived.Lib.Hide
namespace Go.Proofs.Ythfopabefknlkab
open Go.RowKit Go.Maps Go.WideElems

/-- How a pointer to an account reads: by its block's number. -/
def ptrE (v : Value) : Option (DataW Unit × List MemPlace) :=
  match v with
  | .pointer none => some (.nil, [])
  | .pointer (some ⟨b, 0, none⟩) => some (.lit (.int .i64 b), [])
  | _ => none
theorem ptrE_nil : ptrE (.pointer none) = some (.nil, []) := rfl
theorem ptrE_at (b : Nat) : ptrE (.pointer (some ⟨b, 0, none⟩)) = some (.lit (.int .i64 b), []) := rfl
theorem ptrE_inv {v : Value} {b : Nat} {ps : List MemPlace} (h : ptrE v = some (.lit (.int .i64 b), ps)) : v = .pointer (some ⟨b, 0, none⟩) := by
  unfold ptrE at h
  split at h
  · cases h
  · rename_i b'
    simp at h
    obtain rfl : b' = b := by omega
    rfl
  · cases h

/-- An account: its number, its block, the one above it, its grant, what it holds, and has held. -/
structure Ac where
  n : Int
  b : Nat
  u : Int
  g : Int
  h : Int
  p : Int
def acOf (L : List Ac) (n : Int) : Option Ac := L.find? (fun a => a.n == n)

theorem lawI : Keyed Try.prog 3 := int_keyed Try.underlying3
theorem zeroA (w : World) : (zeroValue 63).run Try.prog w = .ok (.pointer none) w := by kernel_rfl
theorem wf_of {n : Int} (h0 : -9223372036854775808 ≤ n) (h1 : n ≤ 9223372036854775807) : (Lit.int .i64 n).wf = true := WalkArith.wf_i64 ⟨h0, h1⟩

/-- Block m is a map of the accounts' numbers to their blocks. -/
def MapOf (w : World) (m : Nat) (L : List Ac) : Prop :=
  ∃ D : DataW Unit, w.ownsMap Try.prog 3 ptrE m L.length D ∧ Maps.size D = L.length ∧ ∀ n z, D.atKey (.int .i64 n) z = match acOf L n with | some a => .lit (.int .i64 a.b) | none => z
theorem MapOf.look {w : World} {m : Nat} {L : List Ac} (h : MapOf w m L) {n : Int} (hw : (Lit.int .i64 n).wf = true) :
    (Instr.lookup 66 (.map (some m)) (.int .i64 n) false).run Try.prog w = .ok (match acOf L n with | some a => .pointer (some ⟨a.b, 0, none⟩) | none => .pointer none) w := by
  obtain ⟨D, ⟨es, clock, hb, F, _, rfl⟩, _, hat⟩ := h
  rcases Maps.fit_look false lawI Try.underlying66 (zeroA w) hb F (keyOf_int_mk Try.underlying3 hw) with ⟨hrun, _, h2⟩ | ⟨e0, y, _, _, hrun, hR, h2, _⟩
  · rw [hrun]
    have h3 := hat n .nil
    have h4 := h2 .nil
    rw [h3] at h4
    cases ha : acOf L n with
    | none => rfl
    | some a => rw [ha] at h4; cases h4
  · rw [hrun]
    cases ha : acOf L n with
    | none =>
      have h3 := hat n .nil
      have h4 := hat n (.lit (.bool true))
      rw [h2, ha] at h3 h4
      simp only at h3 h4
      rw [h3] at h4
      cases h4
    | some a =>
      have h3 := hat n .nil
      rw [h2, ha] at h3
      simp only at h3
      obtain ⟨y1, y2⟩ := y
      simp only at h3
      subst h3
      simp [ptrE_inv hR]
theorem MapOf.len {w : World} {m : Nat} {L : List Ac} (h : MapOf w m L) (ty : TypeId) : (Builtin.len_ #[66] ty #[.map (some m)]).run Try.prog w = .ok (.int .i64 L.length) w := by
  obtain ⟨D, h1, h2, _⟩ := h
  rw [← h2]
  exact h1.len Try.underlying66 ty
theorem own_tight {w : World} {m n : Nat} {D : DataW Unit} (h : w.ownsMap Try.prog 3 ptrE m n D) : w.ownsMap Try.prog 3 ptrE m (Maps.size D) D := by
  obtain ⟨es, clock, hb, F, hs, rfl⟩ := h
  exact ⟨es, clock, hb, F, by simp [Maps.size, length_sorted], rfl⟩
theorem MapOf.lt {w : World} {m : Nat} {L : List Ac} (h : MapOf w m L) : m < w.heap.size := by
  obtain ⟨D, h1, _⟩ := h
  exact h1.lt
theorem MapOf.kept {w w' : World} {m : Nat} {L : List Ac} (h : MapOf w m L) (hb : w'.heap[m]? = w.heap[m]?) : MapOf w' m L := by
  obtain ⟨D, ⟨es, clock, h1, h2⟩, h3⟩ := h
  exact ⟨D, ⟨es, clock, hb.trans h1, h2⟩, h3⟩
theorem has_of {L : List Ac} {D : DataW Unit} (hat : ∀ n z, D.atKey (.int .i64 n) z = match acOf L n with | some a => .lit (.int .i64 a.b) | none => z) (n : Int) : Maps.has D (.int .i64 n) = (acOf L n).isSome := by
  cases ha : acOf L n with
  | none => exact Maps.has_false_of_atKey (fun z => by rw [hat, ha])
  | some a => exact Maps.has_true_of_atKey (y := .lit (.int .i64 a.b)) (fun z => by rw [hat, ha])
/-- An account more. -/
theorem MapOf.put {w : World} {m : Nat} {L : List Ac} (h : MapOf w m L) (a : Ac) (hw : (Lit.int .i64 a.n).wf = true) (hno : acOf L a.n = none) (hl : L.length < 1000000) :
    ∃ w', (Instr.mapUpdate 66 (.map (some m)) (.int .i64 a.n) (.pointer (some ⟨a.b, 0, none⟩))).run Try.prog w = .ok () w' ∧ MapOf w' m (L ++ [a]) ∧ w.mapTurned w' m := by
  obtain ⟨D, h1, h2, hat⟩ := h
  obtain ⟨w', hrun, hown, ht⟩ := h1.store lawI Try.underlying66 (by simp [maxLen]; omega) (keyOf_int_mk Try.underlying3 hw) (ptrE_at a.b)
  refine ⟨w', hrun, ⟨_, by simpa using hown, ?_, fun n z => ?_⟩, ht⟩
  · rw [Maps.size_put (h1.tidy lawI), has_of hat, hno]
    simp [h2]
  · unfold acOf
    rw [List.find?_append]
    by_cases e : n = a.n
    · subst e
      have hno' : List.find? (fun x => x.n == a.n) L = none := hno
      rw [Maps.atKey_put_same h1.isMap (show WideAt.IsKeyLit (.int .i64 a.n) from trivial), hno']
      simp
    · rw [Maps.atKey_put_other (by intro hh; cases hh; exact e rfl), hat]
      unfold acOf
      cases List.find? (fun x => x.n == n) L with
      | some x => rfl
      | none => simp [show ¬ (a.n = n) from fun hh => e hh.symm]
/-- An account less. -/
theorem MapOf.del {w : World} {m : Nat} {L : List Ac} (h : MapOf w m L) (n : Int) (hw : (Lit.int .i64 n).wf = true) (hnd : (L.map Ac.n).Nodup) (ty : TypeId) :
    ∃ w', (Builtin.delete_ #[66, 3] ty #[.map (some m), .int .i64 n]).run Try.prog w = .ok (.tuple #[]) w' ∧ MapOf w' m (L.filter (fun a => a.n != n)) ∧ w.mapTurned w' m := by
  obtain ⟨D, h1, h2, hat⟩ := h
  obtain ⟨w', hrun, hown, ht⟩ := h1.drop lawI Try.underlying66 (keyOf_int_mk Try.underlying3 hw) ty
  have hsz : Maps.size (D.del (.int .i64 n)) = (L.filter (fun a => a.n != n)).length := by
    have := Maps.size_del (k := .int .i64 n) (h1.tidy lawI)
    rw [has_of hat] at this
    have key : ∀ L : List Ac, (L.map Ac.n).Nodup → (L.filter (fun a => a.n != n)).length + (if (acOf L n).isSome then 1 else 0) = L.length := by
      intro L
      induction L with
      | nil => intro _; rfl
      | cons a L ih =>
        intro hnd
        rw [List.map_cons, List.nodup_cons] at hnd
        have := ih hnd.2
        unfold acOf at this ⊢
        by_cases e : a.n = n
        · have hnone : List.find? (fun x => x.n == n) L = none := by
            rw [List.find?_eq_none]
            intro x hx
            simp
            intro hh
            exact hnd.1 (by rw [e, ← hh]; exact List.mem_map_of_mem hx)
          rw [hnone] at this
          simp [e] at this ⊢
          omega
        · simp [e] at this ⊢
          omega
    have := key L hnd
    omega
  refine ⟨w', hrun, ⟨_, by rw [← hsz]; exact own_tight hown, hsz, fun k z => ?_⟩, ht⟩
  by_cases e : k = n
  · subst e
    have hf : acOf (L.filter (fun a => a.n != k)) k = none := by
      unfold acOf
      rw [List.find?_eq_none]
      intro x hx
      simp at hx ⊢
      exact hx.2
    rw [Maps.atKey_del_same, hf]
  · have hf : acOf (L.filter (fun a => a.n != n)) k = acOf L k := by
      have e2 : (fun x : Ac => decide ((x.n != n) = true ∧ (x.n == k) = true)) = fun x : Ac => x.n == k := by
        funext x
        by_cases hx : x.n = k
        · have h1 : (x.n != n) = true := by rw [bne_iff_ne, hx]; exact e
          have h2 : (x.n == k) = true := beq_iff_eq.2 hx
          rw [h1, h2]; rfl
        · have h2 : (x.n == k) = false := beq_eq_false_iff_ne.2 hx
          rw [h2]; simp
      unfold acOf
      rw [List.find?_filter, e2]
    rw [Maps.atKey_del_other (by intro hh; cases hh; exact e rfl), hat, hf]
end Go.Proofs.Ythfopabefknlkab
