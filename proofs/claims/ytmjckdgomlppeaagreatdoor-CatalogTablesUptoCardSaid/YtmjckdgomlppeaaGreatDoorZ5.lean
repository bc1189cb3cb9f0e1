/-
  Package catalog: Same, and the document's own.
Package catalog: sets of texts, in memory.
Tokens, plainly: blanks and remarks, cuts of texts, what a token's text is and what may follow it.
The tokens of a text, plainly; of two texts with a line's end between; of tokens that are shown.
Bytes: which are blanks, letters, digits; how far a text runs.
How far a text runs; where blanks and remarks end; texts cut.
Where blanks and remarks end.
-/
import Derived.Test.YtmjckdgomlppeaaGreatDoorZ4
import Derived.Test.YtmjckdgomlppeaaGreatDoorProg
import Derived.Maps.OwnSet
import Derived.StringKeys
import Derived.Lib.Strings
import Derived.Lib.Hide
import Derived.WalkKit
import Derived.WalkSpells
import Derived.WalkLawsBesides
import Derived.WalkMore
section
namespace Go.Proofs.YtmjckdgomlppeaaGreatDoor
open Go.RowKit Go.Shelf
attribute [local go_sem] Oper.semAt_some

section
variable {P : Program} {ops : List Oper} {ds : List (Option Tmp)} {need : List (List Nat)} {a0 : Act} {w0 : World} {R : World → World → Prop} {Gs : List (Value → World → Prop)} {Q : Exit → Act → World → Prop}
/-- An operation whose guard is not met. -/
theorem StepOk.idle {i : Nat} {o : Oper} {g : Value → World → Prop} (j : Nat) (t : Tmp) (b : Bool) (hgd : o.guard = some (j, b)) (hdt : (ops.map (·.dst))[j]? = some (some t)) (hg : Gs.getD i (fun _ _ => True) = g)
    (h : ∀ a w, a.tmps.size = a0.tmps.size → R w0 w → (∀ t, (∀ d ∈ ds, d ≠ some t) → a.tmps.getD t undef = a0.tmps.getD t undef) → (∀ j ∈ need.getD i [], (Gs.getD j (fun _ _ => True)) (slotAt ds a j) w) →
      a.tmps.getD t undef = .bool (!b) ∧ g undef w) : StepOk P ops ds need a0 w0 R Gs Q i o := by
  intro a w h1 h2 h3 h4
  obtain ⟨hb, hw⟩ := h a w h1 h2 h3 h4
  refine .inr ⟨?_, by rw [hg]; exact hw⟩
  have e1 : a.tmps[t]? = some (.bool (!b)) := by
    rw [Array.getD_eq_getD_getElem?] at hb
    cases hx : a.tmps[t]? with
    | none => rw [hx] at hb; cases hb
    | some x => rw [hx] at hb; simp at hb; rw [hb]
  have e2 : ((ops.toArray[j]?).bind (·.dst)) = some t := by
    rw [List.getElem?_map] at hdt
    rw [List.getElem?_toArray]
    cases hx : ops[j]? with
    | none => rw [hx] at hdt; cases hdt
    | some x => rw [hx] at hdt; simp at hdt; simp [hdt]
  unfold Region.wanted
  rw [hgd]
  simp only [yielded, e2, Option.bind_some, e1]
  cases b <;> rfl
end
/-- A fact on a condition. -/
def Cnd (p : Prop) (g : Value → World → Prop) (v : Value) (w : World) : Prop := p → g v w
theorem Cnd.keeps {R : World → World → Prop} {p : Prop} {g : Value → World → Prop} (h : Keeps R g) : Keeps R (Cnd p g) := fun v w w' hr hv hp => h v w w' hr (hv hp)
section
variable {P : Program} {o : Oper} {a : Act} {w : World} {Q : Exit → Act → World → Prop}
theorem Cnd.wp {p : Prop} (_hp : p) {g : Value → World → Prop} (h : o.wp P a w (fun a' w' => ∃ v, a' = a.put o.dst v ∧ Bel w w' ∧ g v w') Q) : o.wp P a w (fun a' w' => ∃ v, a' = a.put o.dst v ∧ Bel w w' ∧ Cnd p g v w') Q :=
  Oper.wp_mono (fun _ _ ⟨v, e, r, hv⟩ => ⟨v, e, r, fun _ => hv⟩) h
theorem run_neS {x y : Operand} {t t' : TypeId} (ho : o.op = .binOp .neq t x y t') {m n : ByteArray} (hx : a.eval x = .string m) (hy : a.eval y = .string n) : (execOp a.eval o).run P w = .ok (.value (.bool (!(m.toList == n.toList)))) w := by
  unfold execOp
  simp [ho, hx, hy, eqGuard, binOp, Op.stringOp]
theorem run_ixT {x y : Operand} (ho : o.op = .indexAddr 22 x y) {b off n c j : Nat} (hj : j < n) (hx : a.eval x = .slice (some ⟨b, off, none⟩) n c) (hy : a.eval y = .int .i64 (j : Nat)) : (execOp a.eval o).run Tryz.prog w = .ok (.value (.pointer (some ⟨b, off + j * 3, none⟩))) w := by
  have hjI : (j : Int) < (n : Int) := by omega
  have h : (Instr.indexAt 22 (.slice (some ⟨b, off, none⟩) n c) (.int .i64 (j : Nat))).run Tryz.prog w = .ok (.pointer (some ⟨b, off + j * 3, none⟩)) w := by go_simp
  unfold execOp
  simp only [ho, hx, hy]
  rw [Sem.run_bind, h]
  rfl
theorem run_faU0 {x : Operand} (ho : o.op = .fieldAddr 29 x 0) {u p : Nat} (hx : a.eval x = .pointer (some ⟨u, p, none⟩)) : (execOp a.eval o).run Tryz.prog w = .ok (.value (.pointer (some ⟨u, p, none⟩))) w := by
  have h : (Instr.fieldAt 29 (.pointer (some ⟨u, p, none⟩)) 0).run Tryz.prog w = .ok (.pointer (some ⟨u, p, none⟩)) w := by go_simp
  unfold execOp
  simp only [ho, hx]
  rw [Sem.run_bind, h]
  rfl
theorem run_faU1 {x : Operand} (ho : o.op = .fieldAddr 29 x 1) {u p : Nat} (hx : a.eval x = .pointer (some ⟨u, p, none⟩)) : (execOp a.eval o).run Tryz.prog w = .ok (.value (.pointer (some ⟨u, p + 1, none⟩))) w := by
  have h : (Instr.fieldAt 29 (.pointer (some ⟨u, p, none⟩)) 1).run Tryz.prog w = .ok (.pointer (some ⟨u, p + 1, none⟩)) w := by go_simp
  unfold execOp
  simp only [ho, hx]
  rw [Sem.run_bind, h]
  rfl
theorem run_faU2 {x : Operand} (ho : o.op = .fieldAddr 29 x 2) {u p : Nat} (hx : a.eval x = .pointer (some ⟨u, p, none⟩)) : (execOp a.eval o).run Tryz.prog w = .ok (.value (.pointer (some ⟨u, p + 2, none⟩))) w := by
  have h : (Instr.fieldAt 29 (.pointer (some ⟨u, p, none⟩)) 2).run Tryz.prog w = .ok (.pointer (some ⟨u, p + 2, none⟩)) w := by go_simp
  unfold execOp
  simp only [ho, hx]
  rw [Sem.run_bind, h]
  rfl
theorem run_ldRs {x : Operand} (ho : o.op = .load 27 x) {u p : Nat} {A : Option Addr} {n c : Nat} (hx : a.eval x = .pointer (some ⟨u, p, none⟩)) (hc : w.cell? ⟨u, p, none⟩ = some (.slice A n c)) : (execOp a.eval o).run Tryz.prog w = .ok (.value (.slice A n c)) w := by
  have h : (Instr.loadAt 27 (.pointer (some ⟨u, p, none⟩))).run Tryz.prog w = .ok (.slice A n c) w := by go_simp
  unfold execOp
  simp only [ho, hx]
  rw [Sem.run_bind, h]
  rfl
end
/-- Are two catalogs the same, table by table? -/
noncomputable def sameTs (l r : List Ta) : Bool := decide (l.length = r.length) && (List.range l.length).all fun i => sameT (l.getD i ⟨⟨#[]⟩, [], []⟩) (r.getD i ⟨⟨#[]⟩, [], []⟩)
abbrev nTa : Ta := ⟨⟨#[]⟩, [], []⟩
theorem sameTs_no {l r : List Ta} {j : Nat} (hj : j < l.length) (h : sameT (l.getD j nTa) (r.getD j nTa) = false) : sameTs l r = false := by
  have : ((List.range l.length).all fun i => sameT (l.getD i nTa) (r.getD i nTa)) = false := by
    rw [List.all_eq_false]
    exact ⟨j, List.mem_range.2 hj, by rw [h]; simp⟩
  rw [sameTs, this, Bool.and_false]
theorem sameTs_yes {l r : List Ta} (h1 : l.length = r.length) (h : ∀ i, i < l.length → sameT (l.getD i nTa) (r.getD i nTa) = true) : sameTs l r = true := by
  have : ((List.range l.length).all fun i => sameT (l.getD i nTa) (r.getD i nTa)) = true := List.all_eq_true.2 fun i hi => h i (List.mem_range.1 hi)
  rw [sameTs, this, decide_eq_true h1]; rfl
/-- Rows in order, in memory. -/
def SrtV (rows : List (List Va)) (v : Value) (w : World) : Prop := ∃ A c rs', v = .slice A rows.length c ∧ RowsAt w A rs' ∧ rs'.Perm rows ∧ InOrder rs'
theorem SrtV.keeps (rows : List (List Va)) : Keeps Bel (SrtV rows) := fun _ _ _ hb ⟨A, c, rs', e, h, h1, h2⟩ => ⟨A, c, rs', e, h.kept hb, h1, h2⟩
set_option maxRecDepth 100000 in
set_option maxHeartbeats 4000000 in
theorem rcSame_any (A B : Option Addr) (c d : Nat) (l r : List Ta) (w : World) (hA : CtAt w A l) (hB : CtAt w B r) (hl : l.length ≤ 9223372036854775807) (hf : ∀ t ∈ l, Few t) (hf' : ∀ t ∈ r, Few t) {q : Bool} (hq : sameTs l r = q) :
    Calls Tryz.prog 16 #[.slice A l.length c, .slice B r.length d] w fun e w' => e = .returned (.bool q) ∧ Below w.heap.size w w' := by
  have HA := Lib.hid hA
  have HB := Lib.hid hB
  have HF := Lib.hid hf
  have HF' := Lib.hid hf'
  have HQ := Lib.hid hq
  clear hA hB hq hf hf'
  by_cases hlen : l.length = r.length
  · have hne : ((l.length : Int) != (r.length : Int)) = false := by rw [bne_eq_false_iff_eq]; omega
    have HLn := Lib.hid hlen
    clear hlen
    go_enter Tryz.func16, Tryz.ntmps16
    go_wp2_with fail
    clear hne
    go_loopw [5] (fun i wr => ∃ j : Nat, j ≤ l.length ∧ i = .int .i64 j ∧ Hid (Below w.heap.size w wr) ∧ Hid (∀ i, i < j → sameT (l.getD i nTa) (r.getD i nTa) = true)) (fun i _ => l.length - (intOf i).toNat)
    case atStart => exact ⟨0, Nat.zero_le _, rfl, Lib.hid (Below.refl _ _), Lib.hid (fun i hi => absurd hi (by omega))⟩
    case round =>
      obtain ⟨j, hj, rfl, HW, HNo⟩ := hrel
      by_cases hlt : j < l.length
      · have hltr : j < r.length := by rw [← HLn.out]; exact hlt
        obtain ⟨b1, off1, rfl, hb1, Ac, cc, Ar, dd, x0, x1, x2, ht⟩ := (HA.out.kept HW.out).at hlt
        obtain ⟨b2, off2, rfl, hb2, Ac', cc', Ar', dd', y0, y1, y2, hu⟩ := (HB.out.kept HW.out).at hltr
        have HG := Lib.hid (show sameT (l.getD j nTa) (r.getD j nTa) = sameT l[j] r[j] by
          rw [List.getD_eq_getElem?_getD, List.getD_eq_getElem?_getD, List.getElem?_eq_getElem hlt, List.getElem?_eq_getElem hltr]; rfl)
        have hft := HF.out l[j] (List.getElem_mem hlt)
        have hfu := HF'.out r[j] (List.getElem_mem hltr)
        generalize l[j] = t at x0 x1 x2 ht hft HG
        generalize r[j] = u at y0 y1 y2 hu hfu HG
        obtain ⟨q1, hq1⟩ : ∃ q1, sameCs t.cols u.cols = q1 := ⟨_, rfl⟩
        obtain ⟨q2, hq2⟩ : ∃ q2, permB t.rows u.rows = q2 := ⟨_, rfl⟩
        have HSC := Lib.hid (fun W (hb : Below wr.heap.size wr W) => sameCols_any Ac Ac' cc cc' t.cols u.cols W (ht.co.kept hb) (hu.co.kept hb) (by have := hft.co; omega) hq1)
        have HS1 := Lib.hid (fun W (hb : Below wr.heap.size wr W) => (refSort_any t.rows.length Ar t.rows.length dd t.rows W rfl (Nat.le_refl _) ht.rl hft.n (ht.ro.kept hb) ht.rn hft.l).mono (fun e w' (h : RefSortEnd _ _ _ _) => (show ∃ v, e = .returned v ∧ Bel W w' ∧ SrtV t.rows v w' from by
          obtain ⟨h1, A, c, rs', rfl, h2, h3, h4, _⟩ := h
          exact ⟨_, rfl, h1, A, c, rs', rfl, h2, h3, h4⟩)))
        have HS2 := Lib.hid (fun W (hb : Below wr.heap.size wr W) => (refSort_any u.rows.length Ar' u.rows.length dd' u.rows W rfl (Nat.le_refl _) hu.rl hfu.n (hu.ro.kept hb) hu.rn hfu.l).mono (fun e w' (h : RefSortEnd _ _ _ _) => (show ∃ v, e = .returned v ∧ Bel W w' ∧ SrtV u.rows v w' from by
          obtain ⟨h1, A, c, rs', rfl, h2, h3, h4, _⟩ := h
          exact ⟨_, rfl, h1, A, c, rs', rfl, h2, h3, h4⟩)))
        have HSL := Lib.hid (fun W A3 A4 c3 c4 r3 r4 (h3 : RowsAt W A3 r3 ∧ r3.Perm t.rows ∧ InOrder r3) (h4 : RowsAt W A4 r4 ∧ r4.Perm u.rows ∧ InOrder r4) => by
          have := rsameList_any A3 A4 c3 c4 r3 r4 W h3.1 h4.1 (by have := h3.2.1.length_eq; have := hft.n; omega) (fun x hx => by have := hft.l x (h3.2.1.mem_iff.1 hx); omega) (fun x hx => by have := hfu.l x (h4.2.1.mem_iff.1 hx); omega) ((eqRs_perm h3.2.1 h4.2.1 h3.2.2 h4.2.2).trans hq2)
          rw [h3.2.1.length_eq, h4.2.1.length_eq] at this
          exact this)
        obtain ⟨n1, hn1⟩ : ∃ n1, (!(t.nm.toList == u.nm.toList)) = n1 := ⟨_, rfl⟩
        obtain ⟨n2, hn2⟩ : ∃ n2, (n1 || !q1) = n2 := ⟨_, rfl⟩
        obtain ⟨n3, hn3⟩ : ∃ n3, (n2 || !q2) = n3 := ⟨_, rfl⟩
        have hst : sameT t u = !n3 := by
          rw [← hn3, ← hn2, ← hn1, sameT, hq1, hq2]
          cases (t.nm.toList == u.nm.toList) <;> cases q1 <;> cases q2 <;> rfl
        have HN1 := Lib.hid hn1
        have HN2 := Lib.hid (show ∀ u v : Value, u = .bool true → (n1 = false → v = .bool (!q1)) → (if n1 then u else v) = .bool n2 by
          intro u v hu hv
          cases n1
          · rw [if_neg (by simp), hv rfl, ← hn2, Bool.false_or]
          · rw [if_pos rfl, hu, ← hn2, Bool.true_or])
        have HN3 := Lib.hid (show ∀ u v : Value, u = .bool true → (n2 = false → v = .bool (!q2)) → (if n2 then u else v) = .bool n3 by
          intro u v hu hv
          cases n2
          · rw [if_neg (by simp), hv rfl, ← hn3, Bool.false_or]
          · rw [if_pos rfl, hu, ← hn3, Bool.true_or])
        have HNo1 := Lib.hid (show n3 = false → ∀ i, i < j + 1 → sameT (l.getD i nTa) (r.getD i nTa) = true from fun h i hi => by
          rcases Nat.lt_or_ge i j with h' | h'
          · exact HNo.out i h'
          · obtain rfl : i = j := by omega
            rw [HG.out, hst, h]; rfl)
        have HNo2 := Lib.hid (show n3 = true → false = q from fun h => by rw [← HQ.out, sameTs_no hlt (by rw [HG.out, hst, h]; rfl)])
        obtain ⟨nm, cols, rows⟩ := t
        obtain ⟨nm', cols', rows'⟩ := u
        simp only at x0 x1 x2 y0 y1 y2 HSC HS1 HS2 HSL HN1
        clear hn1 hn2 hn3 hst hq1 hq2 ht hu hft hfu
        go_wp2_with fail
        refine wp_region_inv (n := 41) (ds := [some 17, some 18, some 19, some 20, some 21, some 22, some 23, some 24, some 25, some 26, some 27, some 28, some 29, some 30, some 31, some 32, some 33, some 34, some 35, some 36, some 37, some 38, some 39, some 40, some 41, some 42, some 43, some 44, some 45, some 46, some 47, some 48, some 49, some 50, some 51, some 52, some 53, some 54, some 55, some 56, some 57]) (need := [[], [], [0, 1], [2], [3], [], [], [5, 6], [7], [8], [4, 9], [10], [11], [11], [11, 12, 13], [11, 14], [11, 15], [11], [11], [11, 17, 18], [11, 19], [11, 20], [11, 16, 21], [11, 22], [11, 23], [22, 24], [25], [25], [25, 26, 27], [25, 28], [25, 29], [25, 30], [25], [25], [25, 32, 33], [25, 34], [25, 35], [25, 31, 36], [25, 31, 37], [25, 38], [25, 39]]) (R := Bel) (Gs := [
            (fun v _ => v = .slice (some ⟨b1, off1, none⟩) l.length c),
            (fun v _ => v = .int .i64 (j : Nat)),
            (fun v _ => v = .pointer (some ⟨b1, off1 + j * 3, none⟩)),
            (fun v _ => v = .pointer (some ⟨b1, off1 + j * 3, none⟩)),
            (fun v _ => v = .string nm),
            (fun v _ => v = .slice (some ⟨b2, off2, none⟩) r.length d),
            (fun v _ => v = .int .i64 (j : Nat)),
            (fun v _ => v = .pointer (some ⟨b2, off2 + j * 3, none⟩)),
            (fun v _ => v = .pointer (some ⟨b2, off2 + j * 3, none⟩)),
            (fun v _ => v = .string nm'),
            (fun v _ => v = .bool n1),
            (fun v _ => v = .bool n1),
            (Cnd (n1 = false) (fun v _ => v = .slice (some ⟨b1, off1, none⟩) l.length c)),
            (Cnd (n1 = false) (fun v _ => v = .int .i64 (j : Nat))),
            (Cnd (n1 = false) (fun v _ => v = .pointer (some ⟨b1, off1 + j * 3, none⟩))),
            (Cnd (n1 = false) (fun v _ => v = .pointer (some ⟨b1, off1 + j * 3 + 1, none⟩))),
            (Cnd (n1 = false) (fun v _ => v = .slice Ac cols.length cc)),
            (Cnd (n1 = false) (fun v _ => v = .slice (some ⟨b2, off2, none⟩) r.length d)),
            (Cnd (n1 = false) (fun v _ => v = .int .i64 (j : Nat))),
            (Cnd (n1 = false) (fun v _ => v = .pointer (some ⟨b2, off2 + j * 3, none⟩))),
            (Cnd (n1 = false) (fun v _ => v = .pointer (some ⟨b2, off2 + j * 3 + 1, none⟩))),
            (Cnd (n1 = false) (fun v _ => v = .slice Ac' cols'.length cc')),
            (Cnd (n1 = false) (fun v _ => v = .bool q1)),
            (Cnd (n1 = false) (fun v _ => v = .bool (!q1))),
            (fun v _ => v = .bool n2),
            (fun v _ => v = .bool n2),
            (Cnd (n2 = false) (fun v _ => v = .slice (some ⟨b1, off1, none⟩) l.length c)),
            (Cnd (n2 = false) (fun v _ => v = .int .i64 (j : Nat))),
            (Cnd (n2 = false) (fun v _ => v = .pointer (some ⟨b1, off1 + j * 3, none⟩))),
            (Cnd (n2 = false) (fun v _ => v = .pointer (some ⟨b1, off1 + j * 3 + 2, none⟩))),
            (Cnd (n2 = false) (fun v _ => v = .slice Ar rows.length dd)),
            (Cnd (n2 = false) (SrtV rows)),
            (Cnd (n2 = false) (fun v _ => v = .slice (some ⟨b2, off2, none⟩) r.length d)),
            (Cnd (n2 = false) (fun v _ => v = .int .i64 (j : Nat))),
            (Cnd (n2 = false) (fun v _ => v = .pointer (some ⟨b2, off2 + j * 3, none⟩))),
            (Cnd (n2 = false) (fun v _ => v = .pointer (some ⟨b2, off2 + j * 3 + 2, none⟩))),
            (Cnd (n2 = false) (fun v _ => v = .slice Ar' rows'.length dd')),
            (Cnd (n2 = false) (SrtV rows')),
            (Cnd (n2 = false) (fun v _ => v = .bool q2)),
            (Cnd (n2 = false) (fun v _ => v = .bool (!q2))),
            (fun v _ => v = .bool n3)])
          (by kernel_rfl) (by kernel_rfl) (by decide) (by kernel_rfl) (by kernel_rfl) (by kernel_rfl) (fun x => Below.refl _ x) (fun _ _ _ h k => bt h k) ?_ ?_
        · refine Each.cons rfl (Keeps.const _) (StepOk.plain (g := (fun v _ => v = .slice (some ⟨b1, off1, none⟩) l.length c)) rfl rfl rfl (fun a w hs hR hr pre => ?_)) ?_
          · have ep : a.eval (.tmp 0) = .slice (some ⟨b1, off1, none⟩) l.length c := hr 0 (by decide)
            exact wp_pure (run_move rfl) ep
          refine Each.cons rfl (Keeps.const _) (StepOk.plain (g := (fun v _ => v = .int .i64 (j : Nat))) rfl rfl rfl (fun a w hs hR hr pre => ?_)) ?_
          · have ep : a.eval (.tmp 5) = .int .i64 (j : Nat) := hr 5 (by decide)
            exact wp_pure (run_move rfl) ep
          refine Each.cons rfl (Keeps.const _) (StepOk.plain (g := (fun v _ => v = .pointer (some ⟨b1, off1 + j * 3, none⟩))) rfl rfl rfl (fun a w hs hR hr pre => ?_)) ?_
          · have e17 : a.eval (.tmp 17) = .slice (some ⟨b1, off1, none⟩) l.length c := pre 0 (by decide)
            have e18 : a.eval (.tmp 18) = .int .i64 (j : Nat) := pre 1 (by decide)
            exact wp_pure (run_ixT rfl hlt e17 e18) rfl
          refine Each.cons rfl (Keeps.const _) (StepOk.plain (g := (fun v _ => v = .pointer (some ⟨b1, off1 + j * 3, none⟩))) rfl rfl rfl (fun a w hs hR hr pre => ?_)) ?_
          · have e19 : a.eval (.tmp 19) = .pointer (some ⟨b1, off1 + j * 3, none⟩) := pre 2 (by decide)
            exact wp_pure (run_faU0 rfl e19) rfl
          refine Each.cons rfl (Keeps.const _) (StepOk.plain (g := (fun v _ => v = .string nm)) rfl rfl rfl (fun a w hs hR hr pre => ?_)) ?_
          · have e20 : a.eval (.tmp 20) = .pointer (some ⟨b1, off1 + j * 3, none⟩) := pre 3 (by decide)
            exact wp_pure (run_ldSt rfl e20 ((hR.cell (p := ⟨b1, _, none⟩) hb1).trans x0)) rfl
          refine Each.cons rfl (Keeps.const _) (StepOk.plain (g := (fun v _ => v = .slice (some ⟨b2, off2, none⟩) r.length d)) rfl rfl rfl (fun a w hs hR hr pre => ?_)) ?_
          · have ep : a.eval (.tmp 1) = .slice (some ⟨b2, off2, none⟩) r.length d := hr 1 (by decide)
            exact wp_pure (run_move rfl) ep
          refine Each.cons rfl (Keeps.const _) (StepOk.plain (g := (fun v _ => v = .int .i64 (j : Nat))) rfl rfl rfl (fun a w hs hR hr pre => ?_)) ?_
          · have ep : a.eval (.tmp 5) = .int .i64 (j : Nat) := hr 5 (by decide)
            exact wp_pure (run_move rfl) ep
          refine Each.cons rfl (Keeps.const _) (StepOk.plain (g := (fun v _ => v = .pointer (some ⟨b2, off2 + j * 3, none⟩))) rfl rfl rfl (fun a w hs hR hr pre => ?_)) ?_
          · have e22 : a.eval (.tmp 22) = .slice (some ⟨b2, off2, none⟩) r.length d := pre 5 (by decide)
            have e23 : a.eval (.tmp 23) = .int .i64 (j : Nat) := pre 6 (by decide)
            exact wp_pure (run_ixT rfl hltr e22 e23) rfl
          refine Each.cons rfl (Keeps.const _) (StepOk.plain (g := (fun v _ => v = .pointer (some ⟨b2, off2 + j * 3, none⟩))) rfl rfl rfl (fun a w hs hR hr pre => ?_)) ?_
          · have e24 : a.eval (.tmp 24) = .pointer (some ⟨b2, off2 + j * 3, none⟩) := pre 7 (by decide)
            exact wp_pure (run_faU0 rfl e24) rfl
          refine Each.cons rfl (Keeps.const _) (StepOk.plain (g := (fun v _ => v = .string nm')) rfl rfl rfl (fun a w hs hR hr pre => ?_)) ?_
          · have e25 : a.eval (.tmp 25) = .pointer (some ⟨b2, off2 + j * 3, none⟩) := pre 8 (by decide)
            exact wp_pure (run_ldSt rfl e25 ((hR.cell (p := ⟨b2, _, none⟩) hb2).trans y0)) rfl
          refine Each.cons rfl (Keeps.const _) (StepOk.plain (g := (fun v _ => v = .bool n1)) rfl rfl rfl (fun a w hs hR hr pre => ?_)) ?_
          · have e21 : a.eval (.tmp 21) = .string nm := pre 4 (by decide)
            have e26 : a.eval (.tmp 26) = .string nm' := pre 9 (by decide)
            exact wp_pure (run_neS rfl e21 e26) (by rw [HN1.out])
          refine Each.cons rfl (Keeps.const _) (StepOk.plain (g := (fun v _ => v = .bool n1)) rfl rfl rfl (fun a w hs hR hr pre => ?_)) ?_
          · have e27 : a.eval (.tmp 27) = .bool n1 := pre 10 (by decide)
            exact wp_pure (run_move rfl) e27
          refine Each.cons rfl (Cnd.keeps (Keeps.const _)) ?_ ?_
          · cases n1
            · refine StepOk.guarded 11 28 false (g := (Cnd (false = false) (fun v _ => v = .slice (some ⟨b1, off1, none⟩) l.length c))) rfl rfl rfl rfl (fun a w hs hR hr pre => ⟨pre 11 (by decide), ?_⟩)
              refine Cnd.wp rfl ?_
              have ep : a.eval (.tmp 0) = .slice (some ⟨b1, off1, none⟩) l.length c := hr 0 (by decide)
              exact wp_pure (run_move rfl) ep
            · exact StepOk.idle 11 28 false (g := (Cnd (true = false) (fun v _ => v = .slice (some ⟨b1, off1, none⟩) l.length c))) rfl rfl rfl (fun a w hs hR hr pre => ⟨pre 11 (by decide), fun h => by cases h⟩)
          refine Each.cons rfl (Cnd.keeps (Keeps.const _)) ?_ ?_
          · cases n1
            · refine StepOk.guarded 11 28 false (g := (Cnd (false = false) (fun v _ => v = .int .i64 (j : Nat)))) rfl rfl rfl rfl (fun a w hs hR hr pre => ⟨pre 11 (by decide), ?_⟩)
              refine Cnd.wp rfl ?_
              have ep : a.eval (.tmp 5) = .int .i64 (j : Nat) := hr 5 (by decide)
              exact wp_pure (run_move rfl) ep
            · exact StepOk.idle 11 28 false (g := (Cnd (true = false) (fun v _ => v = .int .i64 (j : Nat)))) rfl rfl rfl (fun a w hs hR hr pre => ⟨pre 11 (by decide), fun h => by cases h⟩)
          refine Each.cons rfl (Cnd.keeps (Keeps.const _)) ?_ ?_
          · cases n1
            · refine StepOk.guarded 11 28 false (g := (Cnd (false = false) (fun v _ => v = .pointer (some ⟨b1, off1 + j * 3, none⟩)))) rfl rfl rfl rfl (fun a w hs hR hr pre => ⟨pre 11 (by decide), ?_⟩)
              refine Cnd.wp rfl ?_
              have e29 : a.eval (.tmp 29) = .slice (some ⟨b1, off1, none⟩) l.length c := (show Cnd (false = false) (fun v _ => v = .slice (some ⟨b1, off1, none⟩) l.length c) (a.eval (.tmp 29)) w from pre 12 (by decide)) rfl
              have e30 : a.eval (.tmp 30) = .int .i64 (j : Nat) := (show Cnd (false = false) (fun v _ => v = .int .i64 (j : Nat)) (a.eval (.tmp 30)) w from pre 13 (by decide)) rfl
              exact wp_pure (run_ixT rfl hlt e29 e30) rfl
            · exact StepOk.idle 11 28 false (g := (Cnd (true = false) (fun v _ => v = .pointer (some ⟨b1, off1 + j * 3, none⟩)))) rfl rfl rfl (fun a w hs hR hr pre => ⟨pre 11 (by decide), fun h => by cases h⟩)
          refine Each.cons rfl (Cnd.keeps (Keeps.const _)) ?_ ?_
          · cases n1
            · refine StepOk.guarded 11 28 false (g := (Cnd (false = false) (fun v _ => v = .pointer (some ⟨b1, off1 + j * 3 + 1, none⟩)))) rfl rfl rfl rfl (fun a w hs hR hr pre => ⟨pre 11 (by decide), ?_⟩)
              refine Cnd.wp rfl ?_
              have e31 : a.eval (.tmp 31) = .pointer (some ⟨b1, off1 + j * 3, none⟩) := (show Cnd (false = false) (fun v _ => v = .pointer (some ⟨b1, off1 + j * 3, none⟩)) (a.eval (.tmp 31)) w from pre 14 (by decide)) rfl
              exact wp_pure (run_faU1 rfl e31) rfl
            · exact StepOk.idle 11 28 false (g := (Cnd (true = false) (fun v _ => v = .pointer (some ⟨b1, off1 + j * 3 + 1, none⟩)))) rfl rfl rfl (fun a w hs hR hr pre => ⟨pre 11 (by decide), fun h => by cases h⟩)
          refine Each.cons rfl (Cnd.keeps (Keeps.const _)) ?_ ?_
          · cases n1
            · refine StepOk.guarded 11 28 false (g := (Cnd (false = false) (fun v _ => v = .slice Ac cols.length cc))) rfl rfl rfl rfl (fun a w hs hR hr pre => ⟨pre 11 (by decide), ?_⟩)
              refine Cnd.wp rfl ?_
              have e32 : a.eval (.tmp 32) = .pointer (some ⟨b1, off1 + j * 3 + 1, none⟩) := (show Cnd (false = false) (fun v _ => v = .pointer (some ⟨b1, off1 + j * 3 + 1, none⟩)) (a.eval (.tmp 32)) w from pre 15 (by decide)) rfl
              exact wp_pure (run_ldCs rfl e32 ((hR.cell (p := ⟨b1, _, none⟩) hb1).trans x1)) rfl
            · exact StepOk.idle 11 28 false (g := (Cnd (true = false) (fun v _ => v = .slice Ac cols.length cc))) rfl rfl rfl (fun a w hs hR hr pre => ⟨pre 11 (by decide), fun h => by cases h⟩)
          refine Each.cons rfl (Cnd.keeps (Keeps.const _)) ?_ ?_
          · cases n1
            · refine StepOk.guarded 11 28 false (g := (Cnd (false = false) (fun v _ => v = .slice (some ⟨b2, off2, none⟩) r.length d))) rfl rfl rfl rfl (fun a w hs hR hr pre => ⟨pre 11 (by decide), ?_⟩)
              refine Cnd.wp rfl ?_
              have ep : a.eval (.tmp 1) = .slice (some ⟨b2, off2, none⟩) r.length d := hr 1 (by decide)
              exact wp_pure (run_move rfl) ep
            · exact StepOk.idle 11 28 false (g := (Cnd (true = false) (fun v _ => v = .slice (some ⟨b2, off2, none⟩) r.length d))) rfl rfl rfl (fun a w hs hR hr pre => ⟨pre 11 (by decide), fun h => by cases h⟩)
          refine Each.cons rfl (Cnd.keeps (Keeps.const _)) ?_ ?_
          · cases n1
            · refine StepOk.guarded 11 28 false (g := (Cnd (false = false) (fun v _ => v = .int .i64 (j : Nat)))) rfl rfl rfl rfl (fun a w hs hR hr pre => ⟨pre 11 (by decide), ?_⟩)
              refine Cnd.wp rfl ?_
              have ep : a.eval (.tmp 5) = .int .i64 (j : Nat) := hr 5 (by decide)
              exact wp_pure (run_move rfl) ep
            · exact StepOk.idle 11 28 false (g := (Cnd (true = false) (fun v _ => v = .int .i64 (j : Nat)))) rfl rfl rfl (fun a w hs hR hr pre => ⟨pre 11 (by decide), fun h => by cases h⟩)
          refine Each.cons rfl (Cnd.keeps (Keeps.const _)) ?_ ?_
          · cases n1
            · refine StepOk.guarded 11 28 false (g := (Cnd (false = false) (fun v _ => v = .pointer (some ⟨b2, off2 + j * 3, none⟩)))) rfl rfl rfl rfl (fun a w hs hR hr pre => ⟨pre 11 (by decide), ?_⟩)
              refine Cnd.wp rfl ?_
              have e34 : a.eval (.tmp 34) = .slice (some ⟨b2, off2, none⟩) r.length d := (show Cnd (false = false) (fun v _ => v = .slice (some ⟨b2, off2, none⟩) r.length d) (a.eval (.tmp 34)) w from pre 17 (by decide)) rfl
              have e35 : a.eval (.tmp 35) = .int .i64 (j : Nat) := (show Cnd (false = false) (fun v _ => v = .int .i64 (j : Nat)) (a.eval (.tmp 35)) w from pre 18 (by decide)) rfl
              exact wp_pure (run_ixT rfl hltr e34 e35) rfl
            · exact StepOk.idle 11 28 false (g := (Cnd (true = false) (fun v _ => v = .pointer (some ⟨b2, off2 + j * 3, none⟩)))) rfl rfl rfl (fun a w hs hR hr pre => ⟨pre 11 (by decide), fun h => by cases h⟩)
          refine Each.cons rfl (Cnd.keeps (Keeps.const _)) ?_ ?_
          · cases n1
            · refine StepOk.guarded 11 28 false (g := (Cnd (false = false) (fun v _ => v = .pointer (some ⟨b2, off2 + j * 3 + 1, none⟩)))) rfl rfl rfl rfl (fun a w hs hR hr pre => ⟨pre 11 (by decide), ?_⟩)
              refine Cnd.wp rfl ?_
              have e36 : a.eval (.tmp 36) = .pointer (some ⟨b2, off2 + j * 3, none⟩) := (show Cnd (false = false) (fun v _ => v = .pointer (some ⟨b2, off2 + j * 3, none⟩)) (a.eval (.tmp 36)) w from pre 19 (by decide)) rfl
              exact wp_pure (run_faU1 rfl e36) rfl
            · exact StepOk.idle 11 28 false (g := (Cnd (true = false) (fun v _ => v = .pointer (some ⟨b2, off2 + j * 3 + 1, none⟩)))) rfl rfl rfl (fun a w hs hR hr pre => ⟨pre 11 (by decide), fun h => by cases h⟩)
          refine Each.cons rfl (Cnd.keeps (Keeps.const _)) ?_ ?_
          · cases n1
            · refine StepOk.guarded 11 28 false (g := (Cnd (false = false) (fun v _ => v = .slice Ac' cols'.length cc'))) rfl rfl rfl rfl (fun a w hs hR hr pre => ⟨pre 11 (by decide), ?_⟩)
              refine Cnd.wp rfl ?_
              have e37 : a.eval (.tmp 37) = .pointer (some ⟨b2, off2 + j * 3 + 1, none⟩) := (show Cnd (false = false) (fun v _ => v = .pointer (some ⟨b2, off2 + j * 3 + 1, none⟩)) (a.eval (.tmp 37)) w from pre 20 (by decide)) rfl
              exact wp_pure (run_ldCs rfl e37 ((hR.cell (p := ⟨b2, _, none⟩) hb2).trans y1)) rfl
            · exact StepOk.idle 11 28 false (g := (Cnd (true = false) (fun v _ => v = .slice Ac' cols'.length cc'))) rfl rfl rfl (fun a w hs hR hr pre => ⟨pre 11 (by decide), fun h => by cases h⟩)
          refine Each.cons rfl (Cnd.keeps (Keeps.const _)) ?_ ?_
          · cases n1
            · refine StepOk.guarded 11 28 false (g := (Cnd (false = false) (fun v _ => v = .bool q1))) rfl rfl rfl rfl (fun a w hs hR hr pre => ⟨pre 11 (by decide), ?_⟩)
              refine Cnd.wp rfl ?_
              have e33 : a.eval (.tmp 33) = .slice Ac cols.length cc := (show Cnd (false = false) (fun v _ => v = .slice Ac cols.length cc) (a.eval (.tmp 33)) w from pre 16 (by decide)) rfl
              have e38 : a.eval (.tmp 38) = .slice Ac' cols'.length cc' := (show Cnd (false = false) (fun v _ => v = .slice Ac' cols'.length cc') (a.eval (.tmp 38)) w from pre 21 (by decide)) rfl
              exact wp_fn (vs := #[.slice Ac cols.length cc, .slice Ac' cols'.length cc']) rfl Tryz.func17 (by kernel_rfl) (by kernel_rfl) (by simp only [List.map_toArray, List.map_cons, List.map_nil, e33, e38]) ((HSC.out w (bt (Below.drew (Below.refl _ _)) hR)).mono fun _ _ ⟨h1, h2⟩ => ⟨_, h1, h2, rfl⟩)
            · exact StepOk.idle 11 28 false (g := (Cnd (true = false) (fun v _ => v = .bool q1))) rfl rfl rfl (fun a w hs hR hr pre => ⟨pre 11 (by decide), fun h => by cases h⟩)
          refine Each.cons rfl (Cnd.keeps (Keeps.const _)) ?_ ?_
          · cases n1
            · refine StepOk.guarded 11 28 false (g := (Cnd (false = false) (fun v _ => v = .bool (!q1)))) rfl rfl rfl rfl (fun a w hs hR hr pre => ⟨pre 11 (by decide), ?_⟩)
              refine Cnd.wp rfl ?_
              have e39 : a.eval (.tmp 39) = .bool q1 := (show Cnd (false = false) (fun v _ => v = .bool q1) (a.eval (.tmp 39)) w from pre 22 (by decide)) rfl
              exact wp_pure (run_not rfl e39) rfl
            · exact StepOk.idle 11 28 false (g := (Cnd (true = false) (fun v _ => v = .bool (!q1)))) rfl rfl rfl (fun a w hs hR hr pre => ⟨pre 11 (by decide), fun h => by cases h⟩)
          refine Each.cons rfl (Keeps.const _) (StepOk.plain (g := (fun v _ => v = .bool n2)) rfl rfl rfl (fun a w hs hR hr pre => ?_)) ?_
          · have e28 : a.eval (.tmp 28) = .bool n1 := pre 11 (by decide)
            have hc : Cnd (n1 = false) (fun v _ => v = .bool (!q1)) (a.eval (.tmp 40)) w := pre 23 (by decide)
            exact wp_pure (run_pick rfl n1 e28) (HN2.out _ _ rfl hc)
          refine Each.cons rfl (Keeps.const _) (StepOk.plain (g := (fun v _ => v = .bool n2)) rfl rfl rfl (fun a w hs hR hr pre => ?_)) ?_
          · have e41 : a.eval (.tmp 41) = .bool n2 := pre 24 (by decide)
            exact wp_pure (run_move rfl) e41
          refine Each.cons rfl (Cnd.keeps (Keeps.const _)) ?_ ?_
          · cases n2
            · refine StepOk.guarded 25 42 false (g := (Cnd (false = false) (fun v _ => v = .slice (some ⟨b1, off1, none⟩) l.length c))) rfl rfl rfl rfl (fun a w hs hR hr pre => ⟨pre 25 (by decide), ?_⟩)
              refine Cnd.wp rfl ?_
              have ep : a.eval (.tmp 0) = .slice (some ⟨b1, off1, none⟩) l.length c := hr 0 (by decide)
              exact wp_pure (run_move rfl) ep
            · exact StepOk.idle 25 42 false (g := (Cnd (true = false) (fun v _ => v = .slice (some ⟨b1, off1, none⟩) l.length c))) rfl rfl rfl (fun a w hs hR hr pre => ⟨pre 25 (by decide), fun h => by cases h⟩)
          refine Each.cons rfl (Cnd.keeps (Keeps.const _)) ?_ ?_
          · cases n2
            · refine StepOk.guarded 25 42 false (g := (Cnd (false = false) (fun v _ => v = .int .i64 (j : Nat)))) rfl rfl rfl rfl (fun a w hs hR hr pre => ⟨pre 25 (by decide), ?_⟩)
              refine Cnd.wp rfl ?_
              have ep : a.eval (.tmp 5) = .int .i64 (j : Nat) := hr 5 (by decide)
              exact wp_pure (run_move rfl) ep
            · exact StepOk.idle 25 42 false (g := (Cnd (true = false) (fun v _ => v = .int .i64 (j : Nat)))) rfl rfl rfl (fun a w hs hR hr pre => ⟨pre 25 (by decide), fun h => by cases h⟩)
          refine Each.cons rfl (Cnd.keeps (Keeps.const _)) ?_ ?_
          · cases n2
            · refine StepOk.guarded 25 42 false (g := (Cnd (false = false) (fun v _ => v = .pointer (some ⟨b1, off1 + j * 3, none⟩)))) rfl rfl rfl rfl (fun a w hs hR hr pre => ⟨pre 25 (by decide), ?_⟩)
              refine Cnd.wp rfl ?_
              have e43 : a.eval (.tmp 43) = .slice (some ⟨b1, off1, none⟩) l.length c := (show Cnd (false = false) (fun v _ => v = .slice (some ⟨b1, off1, none⟩) l.length c) (a.eval (.tmp 43)) w from pre 26 (by decide)) rfl
              have e44 : a.eval (.tmp 44) = .int .i64 (j : Nat) := (show Cnd (false = false) (fun v _ => v = .int .i64 (j : Nat)) (a.eval (.tmp 44)) w from pre 27 (by decide)) rfl
              exact wp_pure (run_ixT rfl hlt e43 e44) rfl
            · exact StepOk.idle 25 42 false (g := (Cnd (true = false) (fun v _ => v = .pointer (some ⟨b1, off1 + j * 3, none⟩)))) rfl rfl rfl (fun a w hs hR hr pre => ⟨pre 25 (by decide), fun h => by cases h⟩)
          refine Each.cons rfl (Cnd.keeps (Keeps.const _)) ?_ ?_
          · cases n2
            · refine StepOk.guarded 25 42 false (g := (Cnd (false = false) (fun v _ => v = .pointer (some ⟨b1, off1 + j * 3 + 2, none⟩)))) rfl rfl rfl rfl (fun a w hs hR hr pre => ⟨pre 25 (by decide), ?_⟩)
              refine Cnd.wp rfl ?_
              have e45 : a.eval (.tmp 45) = .pointer (some ⟨b1, off1 + j * 3, none⟩) := (show Cnd (false = false) (fun v _ => v = .pointer (some ⟨b1, off1 + j * 3, none⟩)) (a.eval (.tmp 45)) w from pre 28 (by decide)) rfl
              exact wp_pure (run_faU2 rfl e45) rfl
            · exact StepOk.idle 25 42 false (g := (Cnd (true = false) (fun v _ => v = .pointer (some ⟨b1, off1 + j * 3 + 2, none⟩)))) rfl rfl rfl (fun a w hs hR hr pre => ⟨pre 25 (by decide), fun h => by cases h⟩)
          refine Each.cons rfl (Cnd.keeps (Keeps.const _)) ?_ ?_
          · cases n2
            · refine StepOk.guarded 25 42 false (g := (Cnd (false = false) (fun v _ => v = .slice Ar rows.length dd))) rfl rfl rfl rfl (fun a w hs hR hr pre => ⟨pre 25 (by decide), ?_⟩)
              refine Cnd.wp rfl ?_
              have e46 : a.eval (.tmp 46) = .pointer (some ⟨b1, off1 + j * 3 + 2, none⟩) := (show Cnd (false = false) (fun v _ => v = .pointer (some ⟨b1, off1 + j * 3 + 2, none⟩)) (a.eval (.tmp 46)) w from pre 29 (by decide)) rfl
              exact wp_pure (run_ldRs rfl e46 ((hR.cell (p := ⟨b1, _, none⟩) hb1).trans x2)) rfl
            · exact StepOk.idle 25 42 false (g := (Cnd (true = false) (fun v _ => v = .slice Ar rows.length dd))) rfl rfl rfl (fun a w hs hR hr pre => ⟨pre 25 (by decide), fun h => by cases h⟩)
          refine Each.cons rfl (Cnd.keeps (SrtV.keeps _)) ?_ ?_
          · cases n2
            · refine StepOk.guarded 25 42 false (g := (Cnd (false = false) (SrtV rows))) rfl rfl rfl rfl (fun a w hs hR hr pre => ⟨pre 25 (by decide), ?_⟩)
              refine Cnd.wp rfl ?_
              have e47 : a.eval (.tmp 47) = .slice Ar rows.length dd := (show Cnd (false = false) (fun v _ => v = .slice Ar rows.length dd) (a.eval (.tmp 47)) w from pre 30 (by decide)) rfl
              exact wp_fn (vs := #[.slice Ar rows.length dd]) rfl Tryz.func39 (by kernel_rfl) (by kernel_rfl) (by simp only [List.map_toArray, List.map_cons, List.map_nil, e47]) (HS1.out w (bt (Below.drew (Below.refl _ _)) hR))
            · exact StepOk.idle 25 42 false (g := (Cnd (true = false) (SrtV rows))) rfl rfl rfl (fun a w hs hR hr pre => ⟨pre 25 (by decide), fun h => by cases h⟩)
          refine Each.cons rfl (Cnd.keeps (Keeps.const _)) ?_ ?_
          · cases n2
            · refine StepOk.guarded 25 42 false (g := (Cnd (false = false) (fun v _ => v = .slice (some ⟨b2, off2, none⟩) r.length d))) rfl rfl rfl rfl (fun a w hs hR hr pre => ⟨pre 25 (by decide), ?_⟩)
              refine Cnd.wp rfl ?_
              have ep : a.eval (.tmp 1) = .slice (some ⟨b2, off2, none⟩) r.length d := hr 1 (by decide)
              exact wp_pure (run_move rfl) ep
            · exact StepOk.idle 25 42 false (g := (Cnd (true = false) (fun v _ => v = .slice (some ⟨b2, off2, none⟩) r.length d))) rfl rfl rfl (fun a w hs hR hr pre => ⟨pre 25 (by decide), fun h => by cases h⟩)
          refine Each.cons rfl (Cnd.keeps (Keeps.const _)) ?_ ?_
          · cases n2
            · refine StepOk.guarded 25 42 false (g := (Cnd (false = false) (fun v _ => v = .int .i64 (j : Nat)))) rfl rfl rfl rfl (fun a w hs hR hr pre => ⟨pre 25 (by decide), ?_⟩)
              refine Cnd.wp rfl ?_
              have ep : a.eval (.tmp 5) = .int .i64 (j : Nat) := hr 5 (by decide)
              exact wp_pure (run_move rfl) ep
            · exact StepOk.idle 25 42 false (g := (Cnd (true = false) (fun v _ => v = .int .i64 (j : Nat)))) rfl rfl rfl (fun a w hs hR hr pre => ⟨pre 25 (by decide), fun h => by cases h⟩)
          refine Each.cons rfl (Cnd.keeps (Keeps.const _)) ?_ ?_
          · cases n2
            · refine StepOk.guarded 25 42 false (g := (Cnd (false = false) (fun v _ => v = .pointer (some ⟨b2, off2 + j * 3, none⟩)))) rfl rfl rfl rfl (fun a w hs hR hr pre => ⟨pre 25 (by decide), ?_⟩)
              refine Cnd.wp rfl ?_
              have e49 : a.eval (.tmp 49) = .slice (some ⟨b2, off2, none⟩) r.length d := (show Cnd (false = false) (fun v _ => v = .slice (some ⟨b2, off2, none⟩) r.length d) (a.eval (.tmp 49)) w from pre 32 (by decide)) rfl
              have e50 : a.eval (.tmp 50) = .int .i64 (j : Nat) := (show Cnd (false = false) (fun v _ => v = .int .i64 (j : Nat)) (a.eval (.tmp 50)) w from pre 33 (by decide)) rfl
              exact wp_pure (run_ixT rfl hltr e49 e50) rfl
            · exact StepOk.idle 25 42 false (g := (Cnd (true = false) (fun v _ => v = .pointer (some ⟨b2, off2 + j * 3, none⟩)))) rfl rfl rfl (fun a w hs hR hr pre => ⟨pre 25 (by decide), fun h => by cases h⟩)
          refine Each.cons rfl (Cnd.keeps (Keeps.const _)) ?_ ?_
          · cases n2
            · refine StepOk.guarded 25 42 false (g := (Cnd (false = false) (fun v _ => v = .pointer (some ⟨b2, off2 + j * 3 + 2, none⟩)))) rfl rfl rfl rfl (fun a w hs hR hr pre => ⟨pre 25 (by decide), ?_⟩)
              refine Cnd.wp rfl ?_
              have e51 : a.eval (.tmp 51) = .pointer (some ⟨b2, off2 + j * 3, none⟩) := (show Cnd (false = false) (fun v _ => v = .pointer (some ⟨b2, off2 + j * 3, none⟩)) (a.eval (.tmp 51)) w from pre 34 (by decide)) rfl
              exact wp_pure (run_faU2 rfl e51) rfl
            · exact StepOk.idle 25 42 false (g := (Cnd (true = false) (fun v _ => v = .pointer (some ⟨b2, off2 + j * 3 + 2, none⟩)))) rfl rfl rfl (fun a w hs hR hr pre => ⟨pre 25 (by decide), fun h => by cases h⟩)
          refine Each.cons rfl (Cnd.keeps (Keeps.const _)) ?_ ?_
          · cases n2
            · refine StepOk.guarded 25 42 false (g := (Cnd (false = false) (fun v _ => v = .slice Ar' rows'.length dd'))) rfl rfl rfl rfl (fun a w hs hR hr pre => ⟨pre 25 (by decide), ?_⟩)
              refine Cnd.wp rfl ?_
              have e52 : a.eval (.tmp 52) = .pointer (some ⟨b2, off2 + j * 3 + 2, none⟩) := (show Cnd (false = false) (fun v _ => v = .pointer (some ⟨b2, off2 + j * 3 + 2, none⟩)) (a.eval (.tmp 52)) w from pre 35 (by decide)) rfl
              exact wp_pure (run_ldRs rfl e52 ((hR.cell (p := ⟨b2, _, none⟩) hb2).trans y2)) rfl
            · exact StepOk.idle 25 42 false (g := (Cnd (true = false) (fun v _ => v = .slice Ar' rows'.length dd'))) rfl rfl rfl (fun a w hs hR hr pre => ⟨pre 25 (by decide), fun h => by cases h⟩)
          refine Each.cons rfl (Cnd.keeps (SrtV.keeps _)) ?_ ?_
          · cases n2
            · refine StepOk.guarded 25 42 false (g := (Cnd (false = false) (SrtV rows'))) rfl rfl rfl rfl (fun a w hs hR hr pre => ⟨pre 25 (by decide), ?_⟩)
              refine Cnd.wp rfl ?_
              have e53 : a.eval (.tmp 53) = .slice Ar' rows'.length dd' := (show Cnd (false = false) (fun v _ => v = .slice Ar' rows'.length dd') (a.eval (.tmp 53)) w from pre 36 (by decide)) rfl
              exact wp_fn (vs := #[.slice Ar' rows'.length dd']) rfl Tryz.func39 (by kernel_rfl) (by kernel_rfl) (by simp only [List.map_toArray, List.map_cons, List.map_nil, e53]) (HS2.out w (bt (Below.drew (Below.refl _ _)) hR))
            · exact StepOk.idle 25 42 false (g := (Cnd (true = false) (SrtV rows'))) rfl rfl rfl (fun a w hs hR hr pre => ⟨pre 25 (by decide), fun h => by cases h⟩)
          refine Each.cons rfl (Cnd.keeps (Keeps.const _)) ?_ ?_
          · cases n2
            · refine StepOk.guarded 25 42 false (g := (Cnd (false = false) (fun v _ => v = .bool q2))) rfl rfl rfl rfl (fun a w hs hR hr pre => ⟨pre 25 (by decide), ?_⟩)
              refine Cnd.wp rfl ?_
              obtain ⟨A3, c3, r3, e48, h31⟩ : SrtV rows (a.eval (.tmp 48)) w := (show Cnd (false = false) (SrtV rows) (a.eval (.tmp 48)) w from pre 31 (by decide)) rfl
              obtain ⟨A4, c4, r4, e54, h37⟩ : SrtV rows' (a.eval (.tmp 54)) w := (show Cnd (false = false) (SrtV rows') (a.eval (.tmp 54)) w from pre 37 (by decide)) rfl
              exact wp_fn (vs := #[.slice A3 rows.length c3, .slice A4 rows'.length c4]) rfl Tryz.func27 (by kernel_rfl) (by kernel_rfl) (by simp only [List.map_toArray, List.map_cons, List.map_nil, e48, e54]) ((HSL.out w A3 A4 c3 c4 r3 r4 h31 h37).mono fun _ _ ⟨h1, h2⟩ => ⟨_, h1, h2, rfl⟩)
            · exact StepOk.idle 25 42 false (g := (Cnd (true = false) (fun v _ => v = .bool q2))) rfl rfl rfl (fun a w hs hR hr pre => ⟨pre 25 (by decide), fun h => by cases h⟩)
          refine Each.cons rfl (Cnd.keeps (Keeps.const _)) ?_ ?_
          · cases n2
            · refine StepOk.guarded 25 42 false (g := (Cnd (false = false) (fun v _ => v = .bool (!q2)))) rfl rfl rfl rfl (fun a w hs hR hr pre => ⟨pre 25 (by decide), ?_⟩)
              refine Cnd.wp rfl ?_
              have e55 : a.eval (.tmp 55) = .bool q2 := (show Cnd (false = false) (fun v _ => v = .bool q2) (a.eval (.tmp 55)) w from pre 38 (by decide)) rfl
              exact wp_pure (run_not rfl e55) rfl
            · exact StepOk.idle 25 42 false (g := (Cnd (true = false) (fun v _ => v = .bool (!q2)))) rfl rfl rfl (fun a w hs hR hr pre => ⟨pre 25 (by decide), fun h => by cases h⟩)
          refine Each.cons rfl (Keeps.const _) (StepOk.plain (g := (fun v _ => v = .bool n3)) rfl rfl rfl (fun a w hs hR hr pre => ?_)) ?_
          · have e42 : a.eval (.tmp 42) = .bool n2 := pre 25 (by decide)
            have hc : Cnd (n2 = false) (fun v _ => v = .bool (!q2)) (a.eval (.tmp 56)) w := pre 39 (by decide)
            exact wp_pure (run_pick rfl n2 e42) (HN3.out _ _ rfl hc)
          exact Each.nil
        · intro v w1 hB hG
          have e40 : v 40 = .bool n3 := hG 40 (by decide)
          clear hG
          simp only [List.take_succ_cons, List.take_zero, puts, Act.put, List.setIfInBounds_toArray, List.set_cons_zero, List.set_cons_succ, Nat.reduceAdd, e40]
          have HB2 := Lib.hid (bt HW.out (bt (Below.drew (Below.refl _ _)) hB))
          clear hB
          refine wpAny_done (by kernel_rfl) ?_ _
          cases n3
          · have HN9 := Lib.hid (HNo1.out rfl)
            go_wp2_with fail
            go_roundw
            case rel => exact ⟨j + 1, by omega, by go_num, HB2, HN9⟩
            case measure => simp [intOf]; omega
          · obtain rfl : false = q := HNo2.out rfl
            go_wp2_with fail
            go_ret
            exact ⟨rfl, HB2.out⟩
      · obtain rfl : true = q := by rw [← HQ.out, sameTs_yes HLn.out fun i hi => HNo.out i (by omega)]
        go_wp2_with fail
        go_ret
        exact ⟨rfl, HW.out⟩
  · obtain rfl : false = q := by rw [← HQ.out, sameTs, decide_eq_false hlen, Bool.false_and]
    have hne : ((l.length : Int) != (r.length : Int)) = true := by rw [bne_iff_ne]; omega
    go_enter Tryz.func16, Tryz.ntmps16
    go_wp2_with fail
    go_ret
    exact ⟨rfl, Below.refl _ _⟩
end Go.Proofs.YtmjckdgomlppeaaGreatDoor
end
section
namespace Go.Proofs.YtmjckdgomlppeaaGreatDoor
open Go.RowKit Go.Maps Go.WideElems Go.MapKept Go.ChangeMaps
theorem keyS : Keyed Tryz.prog 9 := string_keyed Tryz.underlying9
/-- Stands a text in a list? -/
def hasB (S : List ByteArray) (s : ByteArray) : Bool := S.any fun t => t.toList == s.toList
abbrev bL (s : ByteArray) : Lit := .string s.data.toList
theorem keyOf_bL (s : ByteArray) (hs : s.size ≤ maxLen) : keyOf Tryz.prog 9 (.string s) = some (bL s) := Go.WideMaps.keyOf_string_mk Tryz.underlying9 hs
theorem bL_ne {s t : ByteArray} (h : s ≠ t) : bL s ≠ bL t := by
  intro e
  apply h
  obtain ⟨⟨a⟩⟩ := s
  obtain ⟨⟨b⟩⟩ := t
  simpa [bL] using e
/-- Block m is a set of these texts. -/
def SsAt (w : World) (m : Nat) (S : List ByteArray) : Prop :=
  ∃ D : DataW Unit, w.ownsMap Tryz.prog 9 unitElem m S.length D ∧ ∀ s, Maps.has D (bL s) = hasB S s
theorem SsAt.made (w : World) (n : Nat) (hn : w.heap.size = n) : SsAt (w.alloc (.map #[] 0)) n [] := by
  subst hn
  exact ⟨.map [], World.ownsMap_made _ _ _ _, fun s => rfl⟩
theorem SsAt.isMap {w : World} {m : Nat} {S : List ByteArray} (h : SsAt w m S) : ∃ es clock, w.heap[m]? = some (.map es clock) := by
  obtain ⟨D, ⟨es, clock, h1, h2⟩, h3⟩ := h
  exact ⟨es, clock, h1⟩
theorem SsAt.lt {w : World} {m : Nat} {S : List ByteArray} (h : SsAt w m S) : m < w.heap.size := by
  obtain ⟨es, clock, h1⟩ := h.isMap
  exact (Array.getElem?_eq_some_iff.1 h1).1
theorem SsAt.kept {w w' : World} {m : Nat} {S : List ByteArray} (h : SsAt w m S) (hb : w'.heap[m]? = w.heap[m]?) : SsAt w' m S := by
  obtain ⟨D, ⟨es, clock, h1, h2⟩, h3⟩ := h
  exact ⟨D, ⟨es, clock, hb.trans h1, h2⟩, h3⟩
theorem SsAt.next {w w' : World} {m : Nat} {S : List ByteArray} (h : SsAt w m S) (hb : Below w.heap.size w w') : SsAt w' m S := h.kept (hb.block m h.lt)
theorem zeroU (w : World) : (zeroValue 83).run Tryz.prog w = .ok (.agg #[]) w := by
  go_simp
theorem SsAt.look {w : World} {m : Nat} {S : List ByteArray} (h : SsAt w m S) (s : ByteArray) (hs : s.size ≤ maxLen) :
    (Instr.lookup 82 (.map (some m)) (.string s) true).run Tryz.prog w = .ok (.tuple #[.agg #[], .bool (hasB S s)]) w := by
  obtain ⟨D, h1, hat⟩ := h
  obtain ⟨v, ps, hrun, hv⟩ := h1.look_ok (t := 82) keyS Tryz.underlying82 (zeroU w) unitElem_mk (keyOf_bL s hs)
  obtain ⟨rfl, _⟩ := unitElem_inv hv
  rw [hrun, hat]
theorem SsAt.put {w : World} {m : Nat} {S : List ByteArray} (h : SsAt w m S) (hl : S.length < maxLen) (s : ByteArray) (hs : s.size ≤ maxLen) :
    ∃ w', (Instr.mapUpdate 82 (.map (some m)) (.string s) (.agg #[])).run Tryz.prog w = .ok () w' ∧ SsAt w' m (S ++ [s]) ∧ w.mapTurned w' m := by
  obtain ⟨D, h1, hat⟩ := h
  obtain ⟨w', hrun, hown, htn⟩ := h1.store (t := 82) keyS Tryz.underlying82 hl (keyOf_bL s hs) unitElem_mk
  refine ⟨w', hrun, ⟨_, by rw [List.length_append]; exact hown, fun k => ?_⟩, htn⟩
  by_cases e : k = s
  · subst e
    rw [Maps.has_put_same h1.isMap (show WideAt.IsKeyLit (bL k) from trivial)]
    simp [hasB]
  · rw [Maps.has_put_other (bL_ne e), hat]
    have : ¬ s.toList = k.toList := fun h => e (by rw [ByteArray.toList_eq, ByteArray.toList_eq] at h; obtain ⟨⟨a⟩⟩ := s; obtain ⟨⟨b⟩⟩ := k; simp at h; rw [h])
    simp [hasB, this]
theorem below_turned {w w' : World} {m : Nat} (h : w.mapTurned w' m) {B : Nat} (hB : B ≤ m) : Below B w w' := by
  obtain ⟨es, clock, es', clock', h1, rfl⟩ := h
  refine ⟨rfl, rfl, rfl, by simp [setBlock], fun k hk => ?_⟩
  simp only [setBlock]
  rw [Array.getElem?_setIfInBounds_ne (by omega)]
end Go.Proofs.YtmjckdgomlppeaaGreatDoor
end
section
namespace Go.Proofs.YtmjckdgomlppeaaGreatDoor.Lx
abbrev B := List UInt8

def blank (c : UInt8) : Bool := decide (c = 32 ∨ c = 9 ∨ c = 10 ∨ c = 13)
def letter (c : UInt8) : Bool := decide (c = 95 ∨ (97 ≤ c.toNat ∧ c.toNat ≤ 122) ∨ (65 ≤ c.toNat ∧ c.toNat ≤ 90))
def digit (c : UInt8) : Bool := decide (48 ≤ c.toNat ∧ c.toNat ≤ 57)
def wordy (c : UInt8) : Bool := letter c || digit c

/-- Where blanks and remarks end; true: within a remark. -/
def sk : Bool → B → Nat
  | _, [] => 0
  | true, c :: r => if c = 10 then sk false r + 1 else sk true r + 1
  | false, c :: r => if blank c then sk false r + 1 else if c = 45 ∧ r.head? = some 45 then sk true r + 1 else 0

structure Tok where
  k : Nat
  s : B
  n : Nat
  deriving DecidableEq

def keys : List B := ["ALL", "AND", "ANTI", "AS", "BY", "COUNT", "DESC", "DISTINCT", "FALSE", "FROM", "GROUP", "IS", "JOIN", "LEFT", "LIMIT", "MAX", "MIN", "NOT", "NULL", "ON", "OR", "ORDER", "SELECT", "SEMI", "SUM", "TRUE", "UNION", "WHERE"].map fun s => s.toUTF8.data.toList
def signs : List B := [[60, 61], [62, 61], [60, 62], [40], [41], [44], [46], [42], [43], [45], [47], [37], [61], [60], [62]]
def key (w : B) : Bool := keys.contains w
def val (w : B) : Nat := w.foldl (fun n c => 10 * n + (c.toNat - 48)) 0

def cutWord (l : B) : Option (Tok × Nat) :=
  let w := l.takeWhile wordy
  if 24 < w.length then none else some (⟨if key w then 2 else 1, w, 0⟩, w.length)
def cutNum (l : B) : Option (Tok × Nat) :=
  let w := l.takeWhile digit
  if ((l.drop w.length).head?.any letter) = true then none else if 9007199254740991 < val w then none else some (⟨3, w, val w⟩, w.length)
/-- What a text says from a place on, and what is left; true: a quote has just been read. -/
def txq : Bool → B → B → Option (B × B)
  | true, [], s => some (s, [])
  | true, c :: r, s => if c = 39 then txq false r (s ++ [39]) else some (s, c :: r)
  | false, [], _ => none
  | false, c :: r, s => if 64 < s.length then none else if c = 39 then txq true r s else txq false r (s ++ [c])
def cutText (l : B) : Option (Tok × Nat) := (txq false (l.drop 1) []).map fun x => (⟨4, x.1, 0⟩, l.length - x.2.length)
def cutSign (l : B) : Option (Tok × Nat) := (signs.find? (·.isPrefixOf l)).map fun w => (⟨5, w, 0⟩, w.length)
def cut (l : B) : Option (Tok × Nat) :=
  match l with
  | [] => some (⟨6, [], 0⟩, 0)
  | c :: r => if letter c then cutWord (c :: r) else if digit c then cutNum (c :: r) else if c = 39 then cutText (c :: r) else cutSign (c :: r)

def dbl (s : B) : B := s.flatMap fun c => if c = 39 then [39, 39] else [c]
/-- A token's text. -/
inductive TokOf : B → Tok → Prop
  | word {w : B} {c : UInt8} {r : B} : w = c :: r → letter c = true → (∀ x ∈ w, wordy x = true) → w.length ≤ 24 → TokOf w ⟨if key w then 2 else 1, w, 0⟩
  | num {w : B} {c : UInt8} {r : B} : w = c :: r → (∀ x ∈ w, digit x = true) → val w ≤ 9007199254740991 → TokOf w ⟨3, w, val w⟩
  | text {s : B} : s.length ≤ 64 → TokOf (39 :: (dbl s ++ [39])) ⟨4, s, 0⟩
  | sign {w : B} : w ∈ signs → TokOf w ⟨5, w, 0⟩
/-- What may follow a token's text. -/
def Foll (w : B) (o : Option UInt8) : Prop :=
  ∀ x, o = some x → ((∃ c r, w = c :: r ∧ wordy c = true) → wordy x = false) ∧ ((∃ r, w = 39 :: r) → x ≠ 39) ∧ (w = [60] → x ≠ 61 ∧ x ≠ 62) ∧ (w = [62] → x ≠ 61)

def show1 (t : Tok) : B := if t.k = 4 then 39 :: (dbl t.s ++ [39]) else if t.k = 6 then [] else t.s

theorem foll_blank {w : B} {x : UInt8} (h : x = 10 ∨ x = 32) : Foll w (some x) := by
  intro y hy
  obtain rfl : x = y := by simpa using hy
  rcases h with rfl | rfl <;> exact ⟨fun _ => by decide, fun _ => by decide, fun _ => by decide, fun _ => by decide⟩

theorem show_tok {w : B} {t : Tok} (h : TokOf w t) : show1 t = w := by
  cases h with
  | word hw hl ha hn => simp only [show1]; split <;> rfl
  | num hw ha hn => rfl
  | text hs => rfl
  | sign hs => rfl

theorem digit_letter {c : UInt8} (h : digit c = true) : letter c = false := by
  simp only [digit, letter, decide_eq_true_eq, decide_eq_false_iff_not] at *
  rintro (rfl | h' | h')
  · simp at h
  · omega
  · omega

theorem sign_head {w : B} (h : w ∈ signs) : ∃ c r, w = c :: r ∧ letter c = false ∧ digit c = false ∧ c ≠ 39 ∧ blank c = false := by
  simp only [signs, List.mem_cons, List.mem_nil_iff, or_false] at h
  rcases h with rfl | rfl | rfl | rfl | rfl | rfl | rfl | rfl | rfl | rfl | rfl | rfl | rfl | rfl | rfl <;> exact ⟨_, _, rfl, by decide, by decide, by decide, by decide⟩

theorem wordy_nblank {c : UInt8} (h : wordy c = true) : blank c = false ∧ c ≠ 45 := by
  simp only [wordy, letter, digit, blank, Bool.or_eq_true, decide_eq_true_eq, decide_eq_false_iff_not] at *
  constructor
  · rintro (rfl | rfl | rfl | rfl) <;> simp at h
  · rintro rfl; simp at h

theorem takeWhile_all {p : UInt8 → Bool} {w r : B} (ha : ∀ x ∈ w, p x = true) (hr : ∀ x, r.head? = some x → p x = false) : (w ++ r).takeWhile p = w := by
  induction w with
  | nil =>
    cases r with
    | nil => rfl
    | cons c r => simp [hr c rfl]
  | cons c w ih => simp [ha c (by simp), ih fun x hx => ha x (by simp [hx])]

theorem takeWhile_take (p : UInt8 → Bool) (l : B) : l.take (l.takeWhile p).length = l.takeWhile p := by
  induction l with
  | nil => rfl
  | cons c l ih => by_cases h : p c = true <;> simp [h, ih]
theorem takeWhile_next (p : UInt8 → Bool) (l : B) (x : UInt8) (h : (l.drop (l.takeWhile p).length).head? = some x) : p x = false := by
  induction l with
  | nil => simp at h
  | cons c l ih =>
    by_cases hc : p c = true
    · simp only [List.takeWhile_cons, hc, if_true, List.length_cons, List.drop_succ_cons] at h; exact ih h
    · simp only [List.takeWhile_cons, hc, Bool.false_eq_true, if_false, List.length_nil, List.drop_zero, List.head?_cons, Option.some.injEq] at h
      subst h; simpa using hc
theorem takeWhile_mem (p : UInt8 → Bool) (l : B) : ∀ x ∈ l.takeWhile p, p x = true := by
  induction l with
  | nil => simp
  | cons c l ih =>
    by_cases hc : p c = true
    · simp only [List.takeWhile_cons, hc, if_true, List.mem_cons]; rintro x (rfl | hx); exact hc; exact ih x hx
    · simp [hc]
theorem takeWhile_le (p : UInt8 → Bool) (l : B) : (l.takeWhile p).length ≤ l.length := by
  induction l with
  | nil => simp
  | cons c l ih =>
    by_cases hc : p c = true
    · simp only [List.takeWhile_cons, hc, if_true, List.length_cons]; omega
    · simp [hc]

/-! The texts of texts -/
theorem txq_done (body s left : B) (h : (s ++ body).length ≤ 64) (hl : left.head? ≠ some 39) : txq false (dbl body ++ 39 :: left) s = some (s ++ body, left) := by
  induction body generalizing s with
  | nil =>
    simp only [dbl, List.flatMap_nil, List.nil_append, List.append_nil] at *
    rw [txq, if_neg (by omega), if_pos rfl]
    cases left with
    | nil => rfl
    | cons c l => rw [txq, if_neg (by simpa using hl)]
  | cons c b ih =>
    have hn : ¬ 64 < s.length := by simp only [List.length_append, List.length_cons] at h; omega
    by_cases hc : c = 39
    · subst hc
      simp only [dbl, List.flatMap_cons, if_true, List.cons_append, List.nil_append] at *
      rw [txq, if_neg hn, if_pos rfl, txq, if_pos rfl, ih (s ++ [39]) (by simpa using h)]
      simp
    · simp only [dbl, List.flatMap_cons, if_neg hc, List.cons_append, List.nil_append] at *
      rw [txq, if_neg hn, if_neg hc, ih (s ++ [c]) (by simpa using h)]
      simp

theorem txq_inv : ∀ (l : B) (q : Bool) (s S left : B), (q = true → s.length ≤ 64) → txq q l s = some (S, left) →
    left.head? ≠ some 39 ∧ S.length ≤ 64 ∧ (q = false → ∃ body, S = s ++ body ∧ l = dbl body ++ 39 :: left) ∧ (q = true → (S = s ∧ left = l) ∨ ∃ body r, l = 39 :: r ∧ S = s ++ 39 :: body ∧ r = dbl body ++ 39 :: left)
  | [], true, s, S, left, hq, h => by
    simp only [txq, Option.some.injEq, Prod.mk.injEq] at h
    obtain ⟨rfl, rfl⟩ := h
    exact ⟨by simp, hq rfl, by simp, fun _ => .inl ⟨rfl, rfl⟩⟩
  | c :: r, true, s, S, left, hq, h => by
    rw [txq] at h
    by_cases hc : c = 39
    · rw [if_pos hc] at h
      obtain ⟨h1, h2, h3, _⟩ := txq_inv r false _ S left (by simp) h
      obtain ⟨body, e1, e2⟩ := h3 rfl
      exact ⟨h1, h2, by simp, fun _ => .inr ⟨body, r, by rw [hc], by simpa using e1, e2⟩⟩
    · rw [if_neg hc] at h
      simp only [Option.some.injEq, Prod.mk.injEq] at h
      obtain ⟨rfl, rfl⟩ := h
      exact ⟨by simpa using hc, hq rfl, by simp, fun _ => .inl ⟨rfl, rfl⟩⟩
  | [], false, s, S, left, hq, h => by simp [txq] at h
  | c :: r, false, s, S, left, hq, h => by
    rw [txq] at h
    by_cases hn : 64 < s.length
    · rw [if_pos hn] at h; cases h
    rw [if_neg hn] at h
    by_cases hc : c = 39
    · rw [if_pos hc] at h
      obtain ⟨h1, h2, _, h4⟩ := txq_inv r true s S left (fun _ => by omega) h
      refine ⟨h1, h2, fun _ => ?_, by simp⟩
      rcases h4 rfl with ⟨rfl, rfl⟩ | ⟨body, r', rfl, rfl, rfl⟩
      · exact ⟨[], by simp, by simp [dbl, hc]⟩
      · exact ⟨39 :: body, rfl, by simp [dbl, hc]⟩
    · rw [if_neg hc] at h
      obtain ⟨h1, h2, h3, _⟩ := txq_inv r false (s ++ [c]) S left (by simp) h
      obtain ⟨body, rfl, rfl⟩ := h3 rfl
      exact ⟨h1, h2, fun _ => ⟨c :: body, by simp, by simp [dbl, hc]⟩, by simp⟩

/-! A cut, both ways -/
theorem cut_of {w r : B} {t : Tok} (h : TokOf w t) (hf : Foll w r.head?) : cut (w ++ r) = some (t, w.length) := by
  cases h with
  | @word w c r' hw hl ha hn =>
    have hx : (w ++ r).takeWhile wordy = w := takeWhile_all ha fun x hx => (hf x hx).1 ⟨c, r', hw, ha c (by simp [hw])⟩
    have : cut (w ++ r) = cutWord (w ++ r) := by rw [hw]; simp [cut, hl]
    rw [this, cutWord, hx]
    rw [if_neg (by omega)]
  | @num w c r' hw ha hn =>
    have hwy : wordy c = true := by simp [wordy, ha c (by simp [hw])]
    have hnx : ∀ x, r.head? = some x → wordy x = false := fun x hx => (hf x hx).1 ⟨c, r', hw, hwy⟩
    have hx : (w ++ r).takeWhile digit = w := takeWhile_all ha fun x hx => by have := hnx x hx; simp only [wordy, Bool.or_eq_false_iff] at this; exact this.2
    have hl : letter c = false := digit_letter (ha c (by simp [hw]))
    have : cut (w ++ r) = cutNum (w ++ r) := by rw [hw]; simp [cut, hl, ha c (by simp [hw])]
    rw [this, cutNum, hx]
    simp only [List.drop_left]
    rw [if_neg (by
      intro h
      cases hr : r.head? with
      | none => simp [hr] at h
      | some x => have := hnx x hr; simp only [hr, Option.any_some] at h; simp [wordy, h] at this), if_neg (by omega)]
  | @text s hs =>
    have : cut (39 :: (dbl s ++ [39]) ++ r) = cutText (39 :: (dbl s ++ [39]) ++ r) := by
      rw [List.cons_append, cut, if_neg (by decide), if_neg (by decide), if_pos rfl]
    rw [this, cutText]
    have hq : txq false (dbl s ++ 39 :: r) [] = some ([] ++ s, r) := txq_done s [] r (by simpa using hs) (by
      intro hh
      exact (hf 39 hh).2.1 ⟨_, rfl⟩ rfl)
    simp only [List.cons_append, List.drop_succ_cons, List.drop_zero, List.append_assoc, List.nil_append] at hq ⊢
    rw [hq]
    simp
    omega
  | @sign w hs =>
    obtain ⟨c, r', hw, h1, h2, h3, h4⟩ := sign_head hs
    have : cut (w ++ r) = cutSign (w ++ r) := by rw [hw]; simp [cut, h1, h2, h3]
    rw [this]
    clear this h1 h2 h3 h4 hw
    simp only [signs, List.mem_cons, List.mem_nil_iff, or_false] at hs
    cases r with
    | nil => rcases hs with rfl | rfl | rfl | rfl | rfl | rfl | rfl | rfl | rfl | rfl | rfl | rfl | rfl | rfl | rfl <;> rfl
    | cons x r =>
      have hf := hf x rfl
      rcases hs with rfl | rfl | rfl | rfl | rfl | rfl | rfl | rfl | rfl | rfl | rfl | rfl | rfl | rfl | rfl
      case inr.inr.inr.inr.inr.inr.inr.inr.inr.inr.inr.inr.inr.inl =>
        have := hf.2.2.1 rfl
        simp [cutSign, signs, List.isPrefixOf, Ne.symm this.1, Ne.symm this.2]
      case inr.inr.inr.inr.inr.inr.inr.inr.inr.inr.inr.inr.inr.inr =>
        have := hf.2.2.2 rfl
        simp [cutSign, signs, List.isPrefixOf, Ne.symm this]
      all_goals simp [cutSign, signs, List.isPrefixOf]

theorem cut_inv {l : B} {t : Tok} {n : Nat} (hl : l ≠ []) (h : cut l = some (t, n)) : n ≤ l.length ∧ TokOf (l.take n) t ∧ Foll (l.take n) (l.drop n).head? := by
  cases l with
  | nil => exact absurd rfl hl
  | cons c r =>
    rw [cut] at h
    by_cases h1 : letter c = true
    · rw [if_pos h1, cutWord] at h
      by_cases h2 : 24 < ((c :: r).takeWhile wordy).length
      · rw [if_pos h2] at h; cases h
      rw [if_neg h2] at h
      simp only [Option.some.injEq, Prod.mk.injEq] at h
      obtain ⟨rfl, rfl⟩ := h
      have hc : wordy c = true := by simp [wordy, h1]
      refine ⟨takeWhile_le _ _, ?_, ?_⟩
      · rw [takeWhile_take]
        exact .word (c := c) (r := r.takeWhile wordy) (by simp [hc]) h1 (takeWhile_mem _ _) (by omega)
      · intro x hx
        have hx' := takeWhile_next _ _ _ hx
        have e : (c :: r).takeWhile wordy = c :: r.takeWhile wordy := by simp [hc]
        rw [takeWhile_take, e]
        refine ⟨fun _ => hx', ?_, ?_, ?_⟩
        · rintro ⟨r', h'⟩; obtain rfl : c = 39 := by simp at h'; exact h'.1
          simp [letter] at h1
        · intro h'; obtain rfl : c = 60 := by simp at h'; exact h'.1
          simp [letter] at h1
        · intro h'; obtain rfl : c = 62 := by simp at h'; exact h'.1
          simp [letter] at h1
    rw [if_neg h1] at h
    by_cases h2 : digit c = true
    · rw [if_pos h2, cutNum] at h
      split at h
      · cases h
      rename_i h3
      split at h
      · cases h
      rename_i h4
      simp only [Option.some.injEq, Prod.mk.injEq] at h
      obtain ⟨rfl, rfl⟩ := h
      have e : (c :: r).takeWhile digit = c :: r.takeWhile digit := by simp [h2]
      refine ⟨takeWhile_le _ _, ?_, ?_⟩
      · rw [takeWhile_take]
        exact .num (c := c) (r := r.takeWhile digit) e (takeWhile_mem _ _) (by omega)
      · intro x hx
        have hx' := takeWhile_next _ _ _ hx
        rw [takeWhile_take, e]
        rw [hx] at h3
        refine ⟨fun _ => by simp only [Option.any_some, Bool.not_eq_true] at h3; simp [wordy, h3, hx'], ?_, ?_, ?_⟩
        · rintro ⟨r', h'⟩; obtain rfl : c = 39 := by simp at h'; exact h'.1
          simp [digit] at h2
        · intro h'; obtain rfl : c = 60 := by simp at h'; exact h'.1
          simp [digit] at h2
        · intro h'; obtain rfl : c = 62 := by simp at h'; exact h'.1
          simp [digit] at h2
    rw [if_neg h2] at h
    by_cases h3 : c = 39
    · subst h3
      rw [if_pos rfl, cutText] at h
      simp only [List.drop_succ_cons, List.drop_zero, Option.map_eq_some_iff] at h
      obtain ⟨⟨S, left⟩, hq, he⟩ := h
      simp only [Prod.mk.injEq] at he
      obtain ⟨rfl, rfl⟩ := he
      obtain ⟨q1, q2, q3, _⟩ := txq_inv r false [] S left (by simp) hq
      obtain ⟨body, hb, hr⟩ := q3 rfl
      rw [show body = S by simpa using hb.symm] at hr
      subst hr
      have e1 : (39 :: (dbl S ++ 39 :: left)).length - left.length = (39 :: (dbl S ++ [39])).length := by simp only [List.length_cons, List.length_append, List.length_nil]; omega
      have e2 : (39 :: (dbl S ++ 39 :: left)) = (39 :: (dbl S ++ [39])) ++ left := by simp
      rw [e1, e2, List.take_left, List.drop_left]
      refine ⟨by simp only [List.length_append]; omega, .text q2, ?_⟩
      intro x hx
      refine ⟨?_, fun _ => ?_, ?_, ?_⟩
      · rintro ⟨c, r, h', hw⟩
        obtain rfl : 39 = c := by simp at h'; exact h'.1
        exact absurd hw (by decide)
      · rintro rfl; exact q1 hx
      · intro h'; simp at h'
      · intro h'; simp at h'
    · rw [if_neg h3, cutSign] at h
      simp only [Option.map_eq_some_iff, Prod.mk.injEq] at h
      obtain ⟨w, hfd, rfl, rfl⟩ := h
      have hp := List.find?_some hfd
      have hm := List.mem_of_find?_eq_some hfd
      obtain ⟨left, hl'⟩ := List.isPrefixOf_iff_prefix.1 hp
      rw [← hl', List.take_left, List.drop_left]
      rw [← hl'] at hfd
      refine ⟨by simp, .sign hm, ?_⟩
      intro x hx
      obtain ⟨c', r', hw, g1, g2, g3, g4⟩ := sign_head hm
      refine ⟨?_, ?_, ?_, ?_⟩
      · rintro ⟨c, r, h', hw'⟩
        rw [hw] at h'
        obtain rfl : c' = c := by simp at h'; exact h'.1
        simp [wordy, g1, g2] at hw'
      · rintro ⟨r, h'⟩
        rw [hw] at h'
        obtain rfl : c' = 39 := by simp at h'; exact h'.1
        exact absurd rfl g3
      · rintro rfl
        cases left with
        | nil => simp at hx
        | cons y left =>
          obtain rfl : y = x := by simpa using hx
          constructor <;> (rintro rfl; simp [signs, List.isPrefixOf] at hfd)
      · rintro rfl
        cases left with
        | nil => simp at hx
        | cons y left =>
          obtain rfl : y = x := by simpa using hx
          rintro rfl; simp [signs, List.isPrefixOf] at hfd

end Go.Proofs.YtmjckdgomlppeaaGreatDoor.Lx
end
section
namespace Go.Proofs.YtmjckdgomlppeaaGreatDoor.Lx

theorem sk_le : ∀ (q : Bool) (l : B), sk q l ≤ l.length
  | true, [] => by simp [sk]
  | false, [] => by simp [sk]
  | true, c :: r => by
    have h1 := sk_le true r
    have h2 := sk_le false r
    rw [sk]; split <;> simp only [List.length_cons] <;> omega
  | false, c :: r => by
    have h1 := sk_le true r
    have h2 := sk_le false r
    rw [sk]; split
    · simp only [List.length_cons]; omega
    · split <;> simp only [List.length_cons] <;> omega

theorem sk_join (t : B) : ∀ (q : Bool) (l : B), sk q l = l.length → sk q (l ++ 10 :: t) = l.length + 1 + sk false t
  | true, [], _ => by simp only [List.nil_append, sk, if_true, List.length_nil]; omega
  | false, [], _ => by
    simp only [List.nil_append, List.length_nil]
    rw [sk, if_pos (by decide)]; omega
  | true, c :: r, h => by
    rw [List.cons_append, sk]
    rw [sk] at h
    split at h
    · rename_i hc
      rw [if_pos hc, sk_join t false r (by simpa using h)]; simp only [List.length_cons]; omega
    · rename_i hc
      rw [if_neg hc, sk_join t true r (by simpa using h)]; simp only [List.length_cons]; omega
  | false, c :: r, h => by
    rw [List.cons_append, sk]
    rw [sk] at h
    split at h
    · rename_i hc
      rw [if_pos hc, sk_join t false r (by simpa using h)]; simp only [List.length_cons]; omega
    · rename_i hc
      rw [if_neg hc]
      split at h
      · rename_i hd
        rw [if_pos ⟨hd.1, by cases r with | nil => simp at hd | cons x r => simpa using hd.2⟩, sk_join t true r (by simpa using h)]; simp only [List.length_cons]; omega
      · simp at h

theorem sk_stop (t : B) : ∀ (q : Bool) (l : B), sk q l < l.length → sk q (l ++ 10 :: t) = sk q l
  | true, [], h => by simp at h
  | false, [], h => by simp at h
  | true, c :: r, h => by
    rw [sk] at h
    rw [List.cons_append, sk, sk]
    split at h
    · rename_i hc
      rw [if_pos hc, if_pos hc, sk_stop t false r (by simpa using h)]
    · rename_i hc
      rw [if_neg hc, if_neg hc, sk_stop t true r (by simpa using h)]
  | false, c :: r, h => by
    rw [sk] at h
    rw [List.cons_append, sk, sk]
    split at h
    · rename_i hc
      rw [if_pos hc, if_pos hc, sk_stop t false r (by simpa using h)]
    · rename_i hc
      rw [if_neg hc, if_neg hc]
      have hh : (c = 45 ∧ (r ++ 10 :: t).head? = some 45) ↔ (c = 45 ∧ r.head? = some 45) := by
        cases r with
        | nil => simp
        | cons x r => simp
      split at h
      · rename_i hd
        rw [if_pos (hh.2 hd), if_pos hd, sk_stop t true r (by simpa using h)]
      · rename_i hd
        rw [if_neg (fun x => hd (hh.1 x)), if_neg hd]

theorem tok_ne {w : B} {t : Tok} (h : TokOf w t) : ∃ c r, w = c :: r ∧ blank c = false ∧ (c = 45 → w = [45]) := by
  cases h with
  | @word _ c r hw hl ha hn =>
    have := wordy_nblank (ha c (by simp [hw]))
    exact ⟨c, r, hw, this.1, fun e => absurd e this.2⟩
  | @num _ c r hw ha hn =>
    have := wordy_nblank (c := c) (by simp [wordy, ha c (by simp [hw])])
    exact ⟨c, r, hw, this.1, fun e => absurd e this.2⟩
  | text hs => exact ⟨39, _, rfl, by decide, fun e => by simp at e⟩
  | sign hs =>
    obtain ⟨c, r, hw, _, _, _, h4⟩ := sign_head hs
    refine ⟨c, r, hw, h4, ?_⟩
    rintro rfl
    simp only [signs, List.mem_cons, List.mem_nil_iff, or_false] at hs
    rcases hs with rfl | rfl | rfl | rfl | rfl | rfl | rfl | rfl | rfl | rfl | rfl | rfl | rfl | rfl | rfl <;> simp at hw ⊢

theorem sk_tok {w r : B} {t : Tok} (h : TokOf w t) : sk false (w ++ 32 :: r) = 0 := by
  obtain ⟨c, w', rfl, hb, hc⟩ := tok_ne h
  rw [List.cons_append, sk, if_neg (by simp [hb]), if_neg]
  rintro ⟨rfl, hd⟩
  obtain rfl : w' = [] := by simpa using hc rfl
  simp at hd

theorem tok_k {w : B} {t : Tok} (h : TokOf w t) : t.k ≠ 6 ∧ t.k ≠ 0 := by
  cases h with
  | word => simp only; split <;> decide
  | num => exact ⟨by simp, by simp⟩
  | text => exact ⟨by simp, by simp⟩
  | sign => exact ⟨by simp, by simp⟩

inductive Toks : B → Nat → List (Tok × Nat) → Nat → Prop
  | fin {l : B} {a : Nat} : sk false l = l.length → Toks l a [(⟨6, [], 0⟩, a + l.length)] (a + l.length)
  | tok {l w r : B} {a : Nat} {t : Tok} {ts : List (Tok × Nat)} {n : Nat} : l.drop (sk false l) = w ++ r → TokOf w t → Foll w r.head? → Toks r (a + sk false l + w.length) ts n → Toks l a ((t, a + sk false l) :: ts) n

inductive Res
  | ok (ts : List (Tok × Nat)) (n : Nat)
  | bad (n e : Nat)

def lx : Nat → B → Nat → Nat → Res
  | 0, _, _, a => .bad a 0
  | f + 1, l, c, a =>
    match cut (l.drop (sk false l)) with
    | none => .bad (a + sk false l) 90
    | some (t, z) =>
      if c = 4096 then .bad (a + sk false l) 3 else if t.k = 6 then .ok [(t, a + sk false l)] (a + sk false l) else
        match lx f ((l.drop (sk false l)).drop z) (c + 1) (a + sk false l + z) with
        | .ok ts n => .ok ((t, a + sk false l) :: ts) n
        | .bad n e => .bad n e

theorem toks_of : ∀ (f : Nat) (l : B) (c a : Nat) (ts : List (Tok × Nat)) (n : Nat), c ≤ 4096 → lx f l c a = .ok ts n → Toks l a ts n ∧ c + ts.length ≤ 4096
  | 0, l, c, a, ts, n, _, h => by simp [lx] at h
  | f + 1, l, c, a, ts, n, hc, h => by
    rw [lx] at h
    split at h
    · cases h
    rename_i t z hcut
    split at h
    · cases h
    rename_i hc'
    by_cases hn : l.drop (sk false l) = []
    · rw [hn, cut] at hcut
      simp only [Option.some.injEq, Prod.mk.injEq] at hcut
      obtain ⟨rfl, rfl⟩ := hcut
      rw [if_pos rfl] at h
      simp only [Res.ok.injEq] at h
      obtain ⟨rfl, rfl⟩ := h
      have h1 := sk_le false l
      have h2 : sk false l = l.length := by have := List.drop_eq_nil_iff.1 hn; omega
      rw [h2]
      exact ⟨.fin h2, by simp only [List.length_cons, List.length_nil]; omega⟩
    · obtain ⟨h1, h2, h3⟩ := cut_inv hn hcut
      rw [if_neg (tok_k h2).1] at h
      split at h
      · rename_i ts' n' hx
        simp only [Res.ok.injEq] at h
        obtain ⟨rfl, rfl⟩ := h
        obtain ⟨i1, i2⟩ := toks_of f _ _ _ _ _ (by omega) hx
        refine ⟨.tok (w := (l.drop (sk false l)).take z) (r := (l.drop (sk false l)).drop z) (List.take_append_drop _ _).symm h2 h3 ?_, by simp only [List.length_cons]; omega⟩
        rw [List.length_take, Nat.min_eq_left h1]
        exact i1
      · cases h

theorem toks_lx {l : B} {a : Nat} {ts : List (Tok × Nat)} {n : Nat} (h : Toks l a ts n) : ∀ (f c : Nat), c + ts.length ≤ 4096 → l.length < f → lx f l c a = .ok ts n := by
  induction h with
  | @fin l a hs =>
    intro f c hc hf
    obtain ⟨f, rfl⟩ : ∃ g, f = g + 1 := ⟨f - 1, by omega⟩
    simp only [List.length_cons, List.length_nil] at hc
    rw [lx, hs, List.drop_length, cut]
    simp only
    rw [if_neg (by omega), if_pos trivial]
  | @tok l w r a t ts n hd ht hf hr ih =>
    intro f c hc hl
    obtain ⟨f, rfl⟩ : ∃ g, f = g + 1 := ⟨f - 1, by omega⟩
    simp only [List.length_cons] at hc
    rw [lx, hd, cut_of ht hf]
    simp only
    rw [if_neg (by omega), if_neg (tok_k ht).1, List.drop_left]
    have hlen : (w ++ r).length ≤ l.length := by rw [← hd, List.length_drop]; omega
    obtain ⟨x, w', hw, _, _⟩ := tok_ne ht
    have hw0 : 0 < w.length := by rw [hw]; simp
    rw [List.length_append] at hlen
    rw [ih f (c + 1) (by omega) (by omega)]

theorem Toks.shift {l : B} {a : Nat} {ts : List (Tok × Nat)} {n : Nat} (h : Toks l a ts n) (d : Nat) : Toks l (a + d) (ts.map fun x => (x.1, x.2 + d)) (n + d) := by
  induction h with
  | @fin l a hs =>
    have := Toks.fin (a := a + d) hs
    rw [show a + d + l.length = a + l.length + d by omega] at this
    exact this
  | @tok l w r a t ts n hd ht hf hr ih =>
    rw [show a + sk false l + w.length + d = a + d + sk false l + w.length by omega] at ih
    have := Toks.tok hd ht hf ih
    rw [show a + d + sk false l = a + sk false l + d by omega] at this
    exact this

theorem Toks.ne {l : B} {a : Nat} {ts : List (Tok × Nat)} {n : Nat} (h : Toks l a ts n) : ts ≠ [] := by cases h <;> simp

/-- More that is skipped before a text. -/
theorem Toks.skip {l l' : B} {a k : Nat} {ts : List (Tok × Nat)} {n : Nat} (h : Toks l (a + k) ts n) (hs : sk false l' = k + sk false l) (hd : l'.drop k = l) (hl : l'.length = k + l.length) : Toks l' a ts n := by
  cases h with
  | fin h =>
    have := Toks.fin (l := l') (a := a) (by omega)
    rw [hl, ← Nat.add_assoc] at this
    exact this
  | tok hd' ht hf hr =>
    rw [Nat.add_assoc, ← hs]
    refine .tok ?_ ht hf (by rw [hs, ← Nat.add_assoc]; exact hr)
    rw [hs, ← List.drop_drop, hd, hd']

theorem Toks.join {l : B} {a : Nat} {ts : List (Tok × Nat)} {n : Nat} (h : Toks l a ts n) {t : B} {us : List (Tok × Nat)} {m : Nat} (g : Toks t 0 us m) :
    Toks (l ++ 10 :: t) a (ts.dropLast ++ us.map fun x => (x.1, x.2 + (n + 1))) (n + 1 + m) := by
  induction h with
  | @fin l a hs =>
    have := g.shift (a + l.length + 1)
    rw [Nat.zero_add, Nat.add_comm m] at this
    simp only [List.dropLast_singleton, List.nil_append]
    refine Toks.skip (l := t) (k := l.length + 1) this (sk_join t false l hs) ?_ ?_
    · rw [show l ++ 10 :: t = (l ++ [10]) ++ t by simp]
      exact List.drop_left' (by simp)
    · simp only [List.length_append, List.length_cons]; omega
  | @tok l w r a t' ts n hd ht hf hr ih =>
    have hlt : sk false l < l.length := by
      obtain ⟨x, w', hw, _, _⟩ := tok_ne ht
      have := congrArg List.length hd
      rw [List.length_drop, hw] at this
      simp only [List.length_append, List.length_cons] at this
      omega
    have hs := sk_stop t false l hlt
    rw [List.dropLast_cons_of_ne_nil hr.ne, List.cons_append, ← hs]
    refine .tok (w := w) (r := r ++ 10 :: t) ?_ ht ?_ (by rw [hs]; exact ih)
    · rw [hs, List.drop_append_of_le_length (by omega), hd, List.append_assoc]
    · cases r with
      | nil => exact foll_blank (.inl rfl)
      | cons x r => exact hf

/-- Tokens shown: a blank between. -/
def shw : List Tok → B
  | [] => []
  | [t] => show1 t
  | t :: u :: r => show1 t ++ 32 :: shw (u :: r)

theorem Toks.shown {l : B} {a : Nat} {ts : List (Tok × Nat)} {n : Nat} (h : Toks l a ts n) :
    (shw (ts.map (·.1))).length ≤ 2 * l.length ∧ ∀ a', ∃ us m, Toks (shw (ts.map (·.1))) a' us m ∧ us.map (·.1) = ts.map (·.1) := by
  induction h with
  | @fin l a hs =>
    simp only [List.map_cons, List.map_nil, shw, show1]
    refine ⟨by simp, fun a' => ⟨_, _, .fin (l := []) (a := a') (by simp [sk]), by simp⟩⟩
  | @tok l w r a t ts n hd ht hf hr ih =>
    obtain ⟨ih1, ih2⟩ := ih
    obtain ⟨u, us, rfl⟩ : ∃ u us, ts = u :: us := by cases ts with | nil => exact absurd rfl hr.ne | cons u us => exact ⟨u, us, rfl⟩
    have e : shw (((t, a + sk false l) :: u :: us).map (·.1)) = w ++ 32 :: shw ((u :: us).map (·.1)) := by
      simp only [List.map_cons, shw, show_tok ht]
    rw [e]
    have hlen := congrArg List.length hd
    rw [List.length_drop, List.length_append] at hlen
    obtain ⟨x, w', hw, _, _⟩ := tok_ne ht
    have hw0 : 0 < w.length := by rw [hw]; simp
    refine ⟨by simp only [List.length_append, List.length_cons]; omega, fun a' => ?_⟩
    obtain ⟨vs, m, h1, h2⟩ := ih2 (a' + w.length + 1)
    have hs := sk_tok (r := shw ((u :: us).map (·.1))) ht
    refine ⟨(t, a') :: vs, m, ?_, by rw [List.map_cons, List.map_cons, h2]⟩
    have := Toks.tok (l := w ++ 32 :: shw ((u :: us).map (·.1))) (w := w) (r := 32 :: shw ((u :: us).map (·.1))) (a := a') (t := t) (ts := vs) (n := m) (by rw [hs]; rfl) ht (foll_blank (.inr rfl)) (by
      rw [hs]
      refine Toks.skip (k := 1) h1 ?_ rfl (by simp only [List.length_cons]; omega)
      rw [sk, if_pos (by decide)]; omega)
    rw [hs] at this
    exact this

end Go.Proofs.YtmjckdgomlppeaaGreatDoor.Lx
end
section
namespace Go.Proofs.YtmjckdgomlppeaaGreatDoor
open Go.RowKit

theorem ret_b {a b : Bool} (h : a = b) : Ending.returned (.bool a) = .returned (.bool b) := by rw [h]
theorem ret_i {k : IntKind} {a b : Int} (h : a = b) : Ending.returned (.int k a) = .returned (.int k b) := by rw [h]
theorem u8_eq (c : UInt8) (k : Nat) (hk : k < 256) : c = UInt8.ofNat k ↔ c.toNat = k := by
  constructor
  · rintro rfl; simp; omega
  · intro h; apply UInt8.toNat_inj.1; simp; omega

theorem isDigit_any (c : UInt8) (w : World) : Calls Tryz.prog 99 #[.int .u8 c.toNat] w fun e w' => e = .returned (.bool (Lx.digit c)) ∧ w' = w := by
  have h0 := c.toNat_lt
  rw [Lx.digit]
  generalize c.toNat = n at h0 ⊢
  by_cases h1 : 48 ≤ n
  · by_cases h2 : n ≤ 57
    · go_enter Tryz.func99, Tryz.ntmps99; go_wp2_with fail; go_ret; exact ⟨ret_b (by first | rfl | (rw [Bool.eq_iff_iff]; simp; done) | (rw [Bool.eq_iff_iff]; simp; omega)), rfl⟩
    · have HC := Lib.hid (show decide (48 ≤ n ∧ n ≤ 57) = false by simp; omega)
      go_enter Tryz.func99, Tryz.ntmps99; go_wp2_with fail; go_ret; exact ⟨ret_b (by first | rfl | (rw [Bool.eq_iff_iff]; simp; done) | (rw [Bool.eq_iff_iff]; simp; omega)), rfl⟩
  · have HC := Lib.hid (show decide (48 ≤ n ∧ n ≤ 57) = false by simp; omega)
    go_enter Tryz.func99, Tryz.ntmps99; go_wp2_with fail; go_ret; exact ⟨ret_b (by first | rfl | (rw [Bool.eq_iff_iff]; simp; done) | (rw [Bool.eq_iff_iff]; simp; omega)), rfl⟩

theorem isLetter_in (n : Nat) (b : Bool) (h0 : n < 256) (h : decide (n = 95 ∨ (97 ≤ n ∧ n ≤ 122) ∨ (65 ≤ n ∧ n ≤ 90)) = b) (w : World) : Calls Tryz.prog 97 #[.int .u8 n] w fun e w' => e = .returned (.bool b) ∧ w' = w := by
  have HC := Lib.hid h
  clear h
  by_cases h1 : n = 95
  · subst h1
    go_enter Tryz.func97, Tryz.ntmps97; go_wp2_with fail; go_ret; exact ⟨ret_b (by rw [← HC.out]; first | rfl | (rw [Bool.eq_iff_iff]; simp; done) | (rw [Bool.eq_iff_iff]; simp; omega)), rfl⟩
  by_cases h2 : 97 ≤ n
  · by_cases h3 : n ≤ 122
    · go_enter Tryz.func97, Tryz.ntmps97; go_wp2_with fail; go_ret; exact ⟨ret_b (by rw [← HC.out]; first | rfl | (rw [Bool.eq_iff_iff]; simp; done) | (rw [Bool.eq_iff_iff]; simp; omega)), rfl⟩
    · have h4 : 65 ≤ n := by omega
      have h5 : ¬ n ≤ 90 := by omega
      go_enter Tryz.func97, Tryz.ntmps97; go_wp2_with fail; go_ret; exact ⟨ret_b (by rw [← HC.out]; first | rfl | (rw [Bool.eq_iff_iff]; simp; done) | (rw [Bool.eq_iff_iff]; simp; omega)), rfl⟩
  · by_cases h4 : 65 ≤ n
    · by_cases h5 : n ≤ 90
      · go_enter Tryz.func97, Tryz.ntmps97; go_wp2_with fail; go_ret; exact ⟨ret_b (by rw [← HC.out]; first | rfl | (rw [Bool.eq_iff_iff]; simp; done) | (rw [Bool.eq_iff_iff]; simp; omega)), rfl⟩
      · go_enter Tryz.func97, Tryz.ntmps97; go_wp2_with fail; go_ret; exact ⟨ret_b (by rw [← HC.out]; first | rfl | (rw [Bool.eq_iff_iff]; simp; done) | (rw [Bool.eq_iff_iff]; simp; omega)), rfl⟩
    · go_enter Tryz.func97, Tryz.ntmps97; go_wp2_with fail; go_ret; exact ⟨ret_b (by rw [← HC.out]; first | rfl | (rw [Bool.eq_iff_iff]; simp; done) | (rw [Bool.eq_iff_iff]; simp; omega)), rfl⟩
theorem isLetter_any (c : UInt8) (w : World) : Calls Tryz.prog 97 #[.int .u8 c.toNat] w fun e w' => e = .returned (.bool (Lx.letter c)) ∧ w' = w := by
  refine isLetter_in _ _ c.toNat_lt ?_ w
  refine decide_eq_decide.2 ?_
  rw [show (95 : UInt8) = UInt8.ofNat 95 from rfl, u8_eq c _ (by decide)]

def Lx.noEnd (c : UInt8) : Bool := decide (c ≠ 10)
theorem wordy_any (c : UInt8) (w : World) : Calls Tryz.prog 112 #[.int .u8 c.toNat] w fun e w' => e = .returned (.bool (Lx.wordy c)) ∧ w' = w := by
  have h0 := c.toNat_lt
  rw [Lx.wordy]
  by_cases hl : Lx.letter c = true
  · go_enter Tryz.func112, Tryz.ntmps112; go_wp2_with fail
    refine (isLetter_any c _).mono ?_
    rintro e w' ⟨rfl, rfl⟩
    rw [hl]
    go_wp2_with fail; go_ret; exact ⟨ret_b (by rw [hl]; rfl), rfl⟩
  · have hl' : Lx.letter c = false := by simpa using hl
    rw [hl']
    go_enter Tryz.func112, Tryz.ntmps112; go_wp2_with fail
    refine (isLetter_any c _).mono ?_
    rintro e w' ⟨rfl, rfl⟩
    rw [hl']
    go_wp2_with fail
    refine (isDigit_any c _).mono ?_
    rintro e w' ⟨rfl, rfl⟩
    go_wp2_with fail; go_ret; exact ⟨rfl, rfl⟩
end Go.Proofs.YtmjckdgomlppeaaGreatDoor
end
section
namespace Go.Proofs.YtmjckdgomlppeaaGreatDoor
open Go.RowKit Go.Shelf

abbrev bs (s : ByteArray) : Lx.B := s.data.toList
theorem bs_len (s : ByteArray) : (bs s).length = s.size := by simp [bs]
theorem bs_extract (s : ByteArray) (a b : Nat) : bs (s.extract a b) = ((bs s).take b).drop a := by
  simp [bs, ByteArray.data_extract]
  rw [List.drop_take]
theorem bs_get (s : ByteArray) (k : Nat) (h : k < s.size) : (bs s)[k]? = some s[k] := by
  have : k < (bs s).length := by rw [bs_len]; exact h
  rw [List.getElem?_eq_getElem this]; rfl
theorem run_lt {p : UInt8 → Bool} : ∀ {l : Lx.B} {k : Nat}, (∀ j c, j < k → l[j]? = some c → p c = true) → k ≤ l.length → (∀ c, l[k]? = some c → p c = false) → (l.takeWhile p).length = k
  | [], k, _, h, _ => by simp at h; simp [h]
  | c :: r, 0, _, _, h => by simp [h c rfl]
  | c :: r, k + 1, h1, h2, h3 => by
    rw [List.takeWhile_cons, h1 0 c (by omega) rfl, if_pos rfl, List.length_cons]
    rw [run_lt (l := r) (k := k) (fun j c' hj hc => h1 (j + 1) c' (by omega) (by simpa using hc)) (by simpa using h2) (fun c' hc => h3 c' (by simpa using hc))]

set_option maxHeartbeats 1000000 in
theorem runW (s : ByteArray) (w : World) (hs : s.size ≤ 9223372036854775807) :
    Calls Tryz.prog 111 #[.string s, .func (.func 112) #[] #[]] w fun e w' => e = .returned (.int .i64 ((bs s).takeWhile Lx.wordy).length) ∧ w' = w := by
  go_enter Tryz.func111, Tryz.ntmps111
  go_wp2_with fail
  go_loop [8, 4] (fun i _ => ∃ k : Nat, k ≤ s.size ∧ i = .int .i64 k ∧ Hid (∀ j c, j < k → (bs s)[j]? = some c → Lx.wordy c = true)) (fun i _ => s.size - (intOf i).toNat)
  case atStart => exact ⟨0, Nat.zero_le _, rfl, Lib.hid (fun j c h => absurd h (by omega))⟩
  case round =>
    obtain ⟨k, hk, rfl, HA⟩ := hrel
    by_cases hlt : k < s.size
    · have HG := Lib.hid (bs_get s k hlt)
      go_wp2_with fail
      go_at_call 112
      refine (wordy_any s[k] _).mono ?_
      rintro e w' ⟨rfl, rfl⟩
      cases hpk : Lx.wordy s[k]
      · go_wp2_with fail
        go_ret
        refine ⟨ret_i ?_, rfl⟩
        rw [run_lt (p := Lx.wordy) HA.out (by rw [bs_len]; omega) (fun c hc => by rw [HG.out] at hc; obtain rfl := Option.some.inj hc; exact hpk)]
      · go_wp2_with fail
        go_round
        case rel =>
          refine ⟨k + 1, by omega, by go_num, Lib.hid (fun j c hj hc => ?_)⟩
          rcases Nat.lt_or_ge j k with h | h
          · exact HA.out j c h hc
          · obtain rfl : j = k := by omega
            rw [HG.out] at hc; obtain rfl := Option.some.inj hc; exact hpk
        case measure => simp [intOf]; omega
    · go_wp2_with fail
      go_ret
      refine ⟨ret_i ?_, rfl⟩
      rw [run_lt (p := Lx.wordy) (k := s.size) (fun j c hj hc => HA.out j c (by omega) hc) (by rw [bs_len]; omega) (fun c hc => by rw [List.getElem?_eq_none (by rw [bs_len]; omega)] at hc; cases hc)]
set_option maxHeartbeats 1000000 in
theorem runD (s : ByteArray) (w : World) (hs : s.size ≤ 9223372036854775807) :
    Calls Tryz.prog 111 #[.string s, .func (.func 99) #[] #[]] w fun e w' => e = .returned (.int .i64 ((bs s).takeWhile Lx.digit).length) ∧ w' = w := by
  go_enter Tryz.func111, Tryz.ntmps111
  go_wp2_with fail
  go_loop [8, 4] (fun i _ => ∃ k : Nat, k ≤ s.size ∧ i = .int .i64 k ∧ Hid (∀ j c, j < k → (bs s)[j]? = some c → Lx.digit c = true)) (fun i _ => s.size - (intOf i).toNat)
  case atStart => exact ⟨0, Nat.zero_le _, rfl, Lib.hid (fun j c h => absurd h (by omega))⟩
  case round =>
    obtain ⟨k, hk, rfl, HA⟩ := hrel
    by_cases hlt : k < s.size
    · have HG := Lib.hid (bs_get s k hlt)
      go_wp2_with fail
      go_at_call 99
      refine (isDigit_any s[k] _).mono ?_
      rintro e w' ⟨rfl, rfl⟩
      cases hpk : Lx.digit s[k]
      · go_wp2_with fail
        go_ret
        refine ⟨ret_i ?_, rfl⟩
        rw [run_lt (p := Lx.digit) HA.out (by rw [bs_len]; omega) (fun c hc => by rw [HG.out] at hc; obtain rfl := Option.some.inj hc; exact hpk)]
      · go_wp2_with fail
        go_round
        case rel =>
          refine ⟨k + 1, by omega, by go_num, Lib.hid (fun j c hj hc => ?_)⟩
          rcases Nat.lt_or_ge j k with h | h
          · exact HA.out j c h hc
          · obtain rfl : j = k := by omega
            rw [HG.out] at hc; obtain rfl := Option.some.inj hc; exact hpk
        case measure => simp [intOf]; omega
    · go_wp2_with fail
      go_ret
      refine ⟨ret_i ?_, rfl⟩
      rw [run_lt (p := Lx.digit) (k := s.size) (fun j c hj hc => HA.out j c (by omega) hc) (by rw [bs_len]; omega) (fun c hc => by rw [List.getElem?_eq_none (by rw [bs_len]; omega)] at hc; cases hc)]
end Go.Proofs.YtmjckdgomlppeaaGreatDoor
end
section
namespace Go.Proofs.YtmjckdgomlppeaaGreatDoor
open Go.RowKit Go.Shelf

theorem sk_true : ∀ r : Lx.B, Lx.sk true r = (r.takeWhile Lx.noEnd).length + Lx.sk false (r.drop (r.takeWhile Lx.noEnd).length)
  | [] => by simp [Lx.sk]
  | c :: r => by
    rw [Lx.sk]
    by_cases hc : c = 10
    · subst hc
      rw [if_pos rfl, List.takeWhile_cons, if_neg (by decide), List.length_nil, List.drop_zero, Lx.sk, if_pos (by decide)]; omega
    · rw [if_neg hc, List.takeWhile_cons, if_pos (by simpa [Lx.noEnd] using hc), List.length_cons, List.drop_succ_cons, sk_true r]; omega
theorem sk_blank {c : UInt8} {r : Lx.B} (h : Lx.blank c = true) : Lx.sk false (c :: r) = Lx.sk false r + 1 := by rw [Lx.sk, if_pos h]
theorem sk_rem {c : UInt8} {r : Lx.B} (h : Lx.blank c = false) (hp : Lib.hasPrefix (c :: r) [45, 45] = true) :
    Lx.sk false (c :: r) = ((c :: r).takeWhile Lx.noEnd).length + Lx.sk false ((c :: r).drop ((c :: r).takeWhile Lx.noEnd).length) := by
  have hh : c = 45 ∧ r.head? = some 45 := by
    cases r with
    | nil => simp [Lib.hasPrefix] at hp
    | cons x r => simp [Lib.hasPrefix] at hp; exact ⟨hp.1.symm, by simp [hp.2]⟩
  rw [Lx.sk, if_neg (by simp [h]), if_pos hh, List.takeWhile_cons, if_pos (by rw [hh.1]; decide), List.length_cons, List.drop_succ_cons, sk_true r]; omega
theorem sk_no {c : UInt8} {r : Lx.B} (h : Lx.blank c = false) (hp : Lib.hasPrefix (c :: r) [45, 45] = false) : Lx.sk false (c :: r) = 0 := by
  rw [Lx.sk, if_neg (by simp [h]), if_neg]
  rintro ⟨rfl, hr⟩
  cases r with
  | nil => simp at hr
  | cons x r => obtain rfl : x = 45 := by simpa using hr
                simp [Lib.hasPrefix] at hp
theorem bs_drop (s : ByteArray) (k : Nat) (h : k < s.size) : (bs s).drop k = s[k] :: (bs s).drop (k + 1) := by
  rw [List.drop_eq_getElem_cons (by rw [bs_len]; exact h)]; rfl
theorem bs_from (s : ByteArray) (k : Nat) : bs (s.extract k s.size) = (bs s).drop k := by
  rw [bs_extract, List.take_of_length_le (by rw [bs_len]; exact Nat.le_refl _)]

end Go.Proofs.YtmjckdgomlppeaaGreatDoor
end
