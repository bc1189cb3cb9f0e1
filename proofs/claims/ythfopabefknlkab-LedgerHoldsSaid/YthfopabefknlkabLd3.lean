/-
  Package ledger: going over the accounts in any order; sums.
-/
import Derived.Test.YthfopabefknlkabLd2
namespace Go.Proofs.Ythfopabefknlkab
open Go.RowKit Go.Maps Go.WideElems

/-- A loop over the map of accounts under way: which are still to come. -/
def RangeOf (w : World) (m r : Nat) (L : List Ac) (left : Int → Bool) (cnt : Nat) : Prop :=
  ∃ (D : DataW Unit) (leftL : Lit → Bool), w.ranges Try.prog 3 ptrE m r L.length D leftL cnt ∧ (∀ n z, D.atKey (.int .i64 n) z = match acOf L n with | some a => .lit (.int .i64 a.b) | none => z) ∧ ∀ n, leftL (.int .i64 n) = left n
theorem RangeOf.kept {w w' : World} {m r : Nat} {L : List Ac} {left : Int → Bool} {cnt : Nat} (h : RangeOf w m r L left cnt) (h1 : w'.heap[m]? = w.heap[m]?) (h2 : w'.heap[r]? = w.heap[r]?) : RangeOf w' m r L left cnt := by
  obtain ⟨D, leftL, ⟨es, clock, since, seen, c0, hb, F, hs, hD, hr, rest⟩, h3⟩ := h
  exact ⟨D, leftL, ⟨es, clock, since, seen, c0, h1.trans hb, F, hs, hD, h2.trans hr, rest⟩, h3⟩
theorem RangeOf.left_eq {w : World} {m r : Nat} {L : List Ac} {left : Int → Bool} {cnt : Nat} (h : RangeOf w m r L left cnt) : w.rangeLeft m r = cnt := by
  obtain ⟨D, leftL, h1, _⟩ := h
  exact h1.left_eq
theorem RangeOf.lt {w : World} {m r : Nat} {L : List Ac} {left : Int → Bool} {cnt : Nat} (h : RangeOf w m r L left cnt) : m < w.heap.size ∧ r < w.heap.size ∧ r ≠ m := by
  obtain ⟨D, leftL, h1, _⟩ := h
  exact ⟨h1.owns.lt, h1.lt, h1.ne⟩
theorem wpList_rangeA {ops : Array Oper} {rest : List Oper} {o : Oper} {a : Act} {Q : Exit → Act → World → Prop} (hg : o.guard = none) (x : Operand) (hop : o.op = Op.range 66 x) (m : Nat) (L : List Ac) (w : World) (hm : a.eval x = .map (some m)) (h : MapOf w m L)
    (hK : ∀ w', RangeOf w' m w.heap.size L (fun n => (acOf L n).isSome) L.length → w.grownBy w' none → w'.heap.size = w.heap.size + 1 → wpList Try.prog ops Q rest (a.put o.dst (.pointer (some ⟨w.heap.size, 0, none⟩))) w') :
    wpList Try.prog ops Q (o :: rest) a w := by
  obtain ⟨D, h1, h2, hat⟩ := h
  exact wpList_range_own w hg x _ hop 3 _ lawI Try.underlying66 ptrE m L.length D hm h1 (fun w' hr hgr hs => hK w' ⟨D, _, by rw [h2] at hr; exact hr, hat, fun n => has_of hat n⟩ hgr hs)
def mkP (c : Option Nat) : Value := .pointer (c.map fun b => ⟨b, 0, none⟩)
theorem ptrE_shape {v : Value} {y : DataW Unit × List MemPlace} (h : ptrE v = some y) : ∃ c, v = mkP c ∧ y = (match c with | some b => .lit (.int .i64 b) | none => .nil, []) := by
  unfold ptrE at h
  split at h
  · simp at h; exact ⟨none, rfl, h.symm⟩
  · rename_i b; simp at h; exact ⟨some b, rfl, h.symm⟩
  · cases h
set_option maxRecDepth 100000 in
theorem wpList_nextA {ops : Array Oper} {rest : List Oper} {o : Oper} {a : Act} {Q : Exit → Act → World → Prop} (hg : o.guard = none) (it : Operand) (hop : o.op = Op.next it false) (m r : Nat) (L : List Ac) (left : Int → Bool) (cnt : Nat) (w : World) (hit : a.eval it = .pointer (some ⟨r, 0, none⟩)) (h : RangeOf w m r L left cnt)
    (hDone : (∀ n, left n = false) → wpList Try.prog ops Q rest (a.put o.dst (.tuple #[.bool false])) w)
    (hMore : ∀ (x : Ac) (w' : World) (cnt' : Nat), acOf L x.n = some x → left x.n = true → RangeOf w' m r L (fun n => left n && n != x.n) cnt' → cnt' < cnt → w.grownBy w' (some r) → w'.heap.size = w.heap.size → (Instr.entry (.pointer (some ⟨r, 0, none⟩))).run Try.prog w' = .ok (.tuple #[.int .i64 x.n, .pointer (some ⟨x.b, 0, none⟩)]) w' → wpList Try.prog ops Q rest (a.put o.dst (.tuple #[.bool true, .int .i64 x.n, .pointer (some ⟨x.b, 0, none⟩)])) w') :
    wpList Try.prog ops Q (o :: rest) a w := by
  obtain ⟨D, leftL, h1, hat, hl⟩ := h
  refine wpList_next_ranges w hg it hop 3 lawI ptrE (Value.int .i64) mkP (fun key kl hkey => by obtain ⟨x, rfl, _⟩ := Maps.keyOf_int_inv Try.underlying3 hkey; exact ⟨x, rfl⟩) (fun v y hv => by obtain ⟨c, rfl, _⟩ := ptrE_shape hv; exact ⟨c, rfl⟩) m r L.length D leftL cnt hit h1 (fun _ hall => hDone (fun n => by rw [← hl]; exact hall _)) ?_
  intro x c kl y w' cnt' hkey hlk hv haty hrg hlt hgr hsz hen
  obtain ⟨x', ex, rfl, hwx⟩ := Maps.keyOf_int_inv Try.underlying3 hkey
  cases ex
  obtain ⟨c', ec, ey⟩ := ptrE_shape hv
  have h3 := haty .nil
  have h4 := haty (.lit (.bool true))
  rw [hat] at h3 h4
  cases ha : acOf L x with
  | none =>
    rw [ha] at h3 h4
    simp only at h3 h4
    rw [← h3] at h4
    cases h4
  | some b =>
    rw [ha] at h3
    simp only at h3
    obtain ⟨hbm, hbn⟩ := acOf_mem ha
    have hc : c = some b.b := by
      have e1 : c' = c := by
        cases c with
        | none =>
          cases c' with
          | none => rfl
          | some q => cases ec
        | some p =>
          cases c' with
          | none => cases ec
          | some q =>
            have ec' : Value.pointer (some ⟨p, 0, none⟩) = .pointer (some ⟨q, 0, none⟩) := ec
            cases ec'
            rfl
      subst e1
      obtain ⟨y1, y2⟩ := y
      simp only at h3
      subst h3
      clear hat haty hl hDone hMore h4 hen hrg h1
      cases c' with
      | none => injection ey with ey _; cases ey
      | some q =>
        injection ey with h3 _
        have h5 : (DataW.lit (Lit.int .i64 (b.b : Int)) : DataW Unit) = .lit (.int .i64 (q : Int)) := h3
        injection h5 with h6
        injection h6 with _ h7
        have h8 : q = b.b := by omega
        rw [h8]
    subst hc
    have e2 : (fun z : Lit => leftL z && !z.sameKey (.int .i64 x)) = fun z : Lit => leftL z && !z.sameKey (.int .i64 b.n) := by rw [hbn]
    have hlx : left b.n = true := by rw [hbn, ← hl]; exact hlk
    rw [hbn.symm] at hen hrg ha ⊢
    refine hMore b w' cnt' ha hlx ⟨D, _, hrg, hat, fun n => ?_⟩ hlt hgr hsz hen
    show (leftL (.int .i64 n) && !(Lit.int .i64 n).sameKey (.int .i64 b.n)) = (left n && n != b.n)
    rw [hl]
    have e : (Lit.int .i64 n).sameKey (.int .i64 b.n) = (n == b.n) := by
      by_cases e : n = b.n
      · rw [e, WideAt.sameKey_self (show WideAt.IsKeyLit (.int .i64 b.n) from trivial)]
        simp
      · rw [Maps.sameKey_ne (by intro hh; cases hh; exact e rfl)]
        exact (beq_eq_false_iff_ne.2 e).symm
    rw [e]
    rfl

/-- The sum of what is behind. -/
def tot (f : Ac → Int) (L : List Ac) (left : Int → Bool) : Int := ((L.filter (fun a => !left a.n)).map f).sum
theorem tot_start (f : Ac → Int) (L : List Ac) : tot f L (fun n => (acOf L n).isSome) = 0 := by
  unfold tot
  have : L.filter (fun a => !(acOf L a.n).isSome) = [] := by
    rw [List.filter_eq_nil_iff]
    intro a ha
    have : (acOf L a.n).isSome = true := by
      unfold acOf
      rw [List.find?_isSome]
      exact ⟨a, ha, by simp⟩
    simp [this]
  rw [this]; rfl
theorem tot_end (f : Ac → Int) (L : List Ac) (left : Int → Bool) (h : ∀ n, left n = false) : tot f L left = (L.map f).sum := by
  unfold tot
  rw [List.filter_eq_self.2 (fun a _ => by simp [h])]
theorem tot_other (f : Ac → Int) (L : List Ac) (left : Int → Bool) (n : Int) (hn : n ∉ L.map Ac.n) : tot f L (fun k => left k && k != n) = tot f L left := by
  unfold tot
  congr 2
  apply List.filter_congr
  intro a ha
  have : (a.n != n) = true := by
    rw [bne_iff_ne]
    intro e
    exact hn (e ▸ List.mem_map_of_mem ha)
  simp [this]
theorem tot_cons (f : Ac → Int) (a : Ac) (L : List Ac) (left : Int → Bool) : tot f (a :: L) left = (if left a.n then 0 else f a) + tot f L left := by
  unfold tot
  cases h : left a.n <;> simp [h]
theorem tot_step (f : Ac → Int) (L : List Ac) (left : Int → Bool) (x : Ac) (hx : acOf L x.n = some x) (hl : left x.n = true) (hnd : (L.map Ac.n).Nodup) : tot f L (fun k => left k && k != x.n) = tot f L left + f x := by
  induction L with
  | nil => cases hx
  | cons a L ih =>
    rw [List.map_cons, List.nodup_cons] at hnd
    unfold acOf at hx
    rw [tot_cons, tot_cons]
    by_cases e : a.n = x.n
    · rw [List.find?_cons_of_pos (by simp [e])] at hx
      cases hx
      rw [tot_other f L left x.n hnd.1, hl]
      simp
      omega
    · rw [List.find?_cons_of_neg (by simp [e])] at hx
      rw [ih hx hnd.2]
      have e3 : (a.n != x.n) = true := by rw [bne_iff_ne]; exact e
      rw [e3, Bool.and_true]
      omega
end Go.Proofs.Ythfopabefknlkab
