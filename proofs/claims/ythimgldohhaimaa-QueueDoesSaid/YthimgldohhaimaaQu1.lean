/-
  Package queue: a queue in memory, whatever its things are; what its calls may do to a world.
-/
import Derived.Test.YthimgldohhaimaaProg
import Derived.Test.YthimgldohhaimaaPlain
import Derived.Lib.Hide
import Derived.Conc.LoneCalls
import Derived.Conc.LoneSelectN
import Derived.Maps.OwnSet
namespace Go.Proofs.Ythimgldohhaimaa
open Go.RowKit Go.Conc

/-- 'c == nil', c a channel. -/
theorem run_eql_chan_nil {P : Program} (w : World) (t : TypeId) {d : ChanDir} {e : TypeId} (c : Option Nat) (h : P.underlying t = some (.chan d e)) : (binOp .eql t (.chan c) (.chan none)).run P w = .ok (.bool c.isNone) w := by
  have hx : ∀ n : Nat, (Op.equalIn (n + 1) t (.chan c) (.chan none)).run P w = .ok c.isNone w := fun n => by
    cases c <;> simp [Op.equalIn, run_underlying h]
  simp only [binOp]
  simp [Op.equal, Op.maxDepth, hx 9999]
theorem block_ltQ {w : World} {k : Nat} {o : Obj} (h : w.heap[k]? = some o) : k < w.heap.size := by
  rcases Nat.lt_or_ge k w.heap.size with hl | hg
  · exact hl
  · rw [Array.getElem?_eq_none hg] at h; cases h
/-- What a queue knows: its room, its things, is it closed. -/
structure Qs where
  cap : Nat
  l : List Value
  cl : Bool
def ptrQ (p : Nat) : Value := .pointer (some ⟨p, 0, none⟩)
def bufQ (ps : List Nat) : Array Value := (ps.map ptrQ).toArray
/-- The things lie in boxes of their own. -/
def Boxes (TE : TypeId) (w : World) (ps : List Nat) (l : List Value) : Prop :=
  ps.length = l.length ∧ ∀ (i : Nat) (p : Nat) (v : Value), ps[i]? = some p → l[i]? = some v → w.heap[p]? = some (.cells #[v] TE (0, 0))
/-- A queue in memory: its box, its channel, the boxes of its things. -/
structure QAt (TQ TE : TypeId) (B : Nat) (w : World) (q c : Nat) (Q : Qs) : Prop where
  box : w.heap[q]? = some (.cells #[.chan (some c), .bool Q.cl] TQ (0, 0))
  chan : ∃ (s r : Nat) (ps : List Nat), w.heap[c]? = some (.chan Q.cap (bufQ ps) Q.cl s r false) ∧ Boxes TE w ps Q.l
  lo : B ≤ q ∧ B ≤ c
  room : Q.l.length ≤ Q.cap
  most : 1 ≤ Q.cap ∧ Q.cap ≤ 1024
/-- All but two blocks is as it was. -/
structure Only (q c : Nat) (w w' : World) : Prop where
  os : w'.os = w.os
  tape : w'.tape = w.tape
  output : w'.output = w.output
  size : w.heap.size ≤ w'.heap.size
  block : ∀ k, k < w.heap.size → k ≠ q → k ≠ c → w'.heap[k]? = w.heap[k]?
theorem Only.refl (q c : Nat) (w : World) : Only q c w w := ⟨rfl, rfl, rfl, Nat.le_refl _, fun _ _ _ _ => rfl⟩
theorem Only.trans {q c : Nat} {w w1 w2 : World} (h : Only q c w w1) (k : Only q c w1 w2) : Only q c w w2 :=
  ⟨k.os.trans h.os, k.tape.trans h.tape, k.output.trans h.output, Nat.le_trans h.size k.size, fun i hi h1 h2 => (k.block i (Nat.lt_of_lt_of_le hi h.size) h1 h2).trans (h.block i hi h1 h2)⟩
theorem Only.of_below {q c : Nat} {w w' : World} (h : Below w.heap.size w w') : Only q c w w' := ⟨h.os, h.tape, h.output, h.size, fun k hk _ _ => h.block k hk⟩
theorem Only.below {q c B : Nat} {w w' : World} (h : Only q c w w') (hq : B ≤ q) (hc : B ≤ c) (hB : B ≤ w.heap.size) : Below B w w' :=
  ⟨h.os, h.tape, h.output, h.size, fun k hk => h.block k (by omega) (by omega) (by omega)⟩
section
variable {TQ TE : TypeId} {B : Nat} {w w' : World} {q c : Nat} {Q : Qs}
theorem Boxes.kept {ps : List Nat} {l : List Value} (h : Boxes TE w ps l) (hk : ∀ (k : Nat) (v : Value), w.heap[k]? = some (Obj.cells #[v] TE (0, 0)) → w'.heap[k]? = w.heap[k]?) : Boxes TE w' ps l :=
  ⟨h.1, fun i p v hp hv => (hk p v (h.2 i p v hp hv)).trans (h.2 i p v hp hv)⟩
theorem QAt.ne (h : QAt TQ TE B w q c Q) : q ≠ c := fun e => by
  obtain ⟨s, r, ps, hc, _⟩ := h.chan
  have hb := h.box
  rw [e, hc] at hb; cases hb
theorem QAt.box_ne (h : QAt TQ TE B w q c Q) {k : Nat} {v : Value} (hk : w.heap[k]? = some (.cells #[v] TE (0, 0))) : k ≠ q ∧ k ≠ c := by
  obtain ⟨s, r, ps, hc, _⟩ := h.chan
  have hb := h.box
  exact ⟨fun e => (by rw [e, hb] at hk; simp at hk), fun e => (by rw [e, hc] at hk; cases hk)⟩
theorem QAt.lt (h : QAt TQ TE B w q c Q) : B ≤ w.heap.size := by have := block_ltQ h.box; have := h.lo.1; omega
theorem QAt.kept (h : QAt TQ TE B w q c Q) (hb : Below w.heap.size w w') : QAt TQ TE B w' q c Q := by
  obtain ⟨s, r, ps, hc, hx⟩ := h.chan
  exact ⟨(hb.block q (block_ltQ h.box)).trans h.box, ⟨s, r, ps, (hb.block c (block_ltQ hc)).trans hc, Boxes.kept hx fun k v hk => hb.block k (block_ltQ hk)⟩, h.lo, h.room, h.most⟩
/-- Another queue has been at work. -/
theorem QAt.other {TQ' TE' : TypeId} {B' q' c' : Nat} {Q' : Qs} (h : QAt TQ TE B w q c Q) (h' : QAt TQ' TE' B' w q' c' Q') (ho : Only q' c' w w') (hq : q ≠ q') (hc : c ≠ c') : QAt TQ TE B w' q c Q := by
  obtain ⟨s, r, ps, hcc, hx⟩ := h.chan
  obtain ⟨s', r', ps', hcc', hx'⟩ := h'.chan
  have hb := h.box
  have hb' := h'.box
  have e1 : q ≠ c' := fun e => by rw [e, hcc'] at hb; cases hb
  have e2 : c ≠ q' := fun e => by rw [e, hb'] at hcc; cases hcc
  refine ⟨(ho.block q (block_ltQ hb) hq e1).trans hb, ⟨s, r, ps, (ho.block c (block_ltQ hcc) e2 hc).trans hcc, Boxes.kept hx fun k v hk => ho.block k (block_ltQ hk) (fun e => ?_) (fun e => ?_)⟩, h.lo, h.room, h.most⟩
  · rw [e, hb'] at hk; simp at hk
  · rw [e, hcc'] at hk; cases hk
theorem QAt.c0 (h : QAt TQ TE B w q c Q) : w.cell? ⟨q, 0, none⟩ = some (.chan (some c)) := by simp [World.cell?, h.box]
theorem QAt.c1 (h : QAt TQ TE B w q c Q) : w.cell? ⟨q, 1, none⟩ = some (.bool Q.cl) := by simp [World.cell?, h.box]
theorem QAt.fz (h : QAt TQ TE B w q c Q) (i : Nat) : w.frozen? ⟨q, i, none⟩ = false := by simp [World.frozen?, h.box]
/-- One thing more: its box has been made, and its address sent. -/
theorem QAt.push (h : QAt TQ TE B w q c Q) (hb : Below w.heap.size w w') {p : Nat} {v : Value} (hp : w'.heap[p]? = some (.cells #[v] TE (0, 0))) (hr : Q.l.length < Q.cap) {s r : Nat} {ps : List Nat} (hps : ps.length = Q.l.length) (hx : Boxes TE w' ps Q.l) (hcl : Q.cl = false) :
    QAt TQ TE B (w'.setChan c Q.cap ((bufQ ps).push (ptrQ p)) false s r false) q c { Q with l := Q.l ++ [v] } ∧ Only q c w (w'.setChan c Q.cap ((bufQ ps).push (ptrQ p)) false s r false) := by
  have h' := h.kept hb
  obtain ⟨s0, r0, ps0, hc0, _⟩ := h'.chan
  have hclt := block_ltQ hc0
  have hoth : ∀ k, k ≠ c → (w'.setChan c Q.cap ((bufQ ps).push (ptrQ p)) false s r false).heap[k]? = w'.heap[k]? := fun k hk => by
    simp [World.setChan, Array.getElem?_setIfInBounds_ne (Ne.symm hk)]
  have hbx : ∀ (k : Nat) (u : Value), w'.heap[k]? = some (Obj.cells #[u] TE (0, 0)) → (w'.setChan c Q.cap ((bufQ ps).push (ptrQ p)) false s r false).heap[k]? = w'.heap[k]? := fun k u hk => hoth k (h'.box_ne hk).2
  refine ⟨⟨(hoth q h.ne).trans h'.box, ⟨s, r, ps ++ [p], ?_, ?_⟩, h.lo, ?_, h.most⟩, ⟨hb.os, hb.tape, hb.output, ?_, fun k hk h1 h2 => (hoth k h2).trans (hb.block k hk)⟩⟩
  · rw [heap_setChan _ _ _ _ _ _ _ _ hclt, hcl]
    simp [bufQ]
  · refine ⟨by simp [hps], fun i p' v' hi hv => ?_⟩
    rcases Nat.lt_or_ge i ps.length with hlt | hge
    · rw [List.getElem?_append_left hlt] at hi
      rw [List.getElem?_append_left (by omega)] at hv
      have := hx.2 i p' v' hi hv
      exact (hbx _ _ this).trans this
    · rw [List.getElem?_append_right hge] at hi
      rw [List.getElem?_append_right (by omega)] at hv
      have h0 : i - ps.length = 0 := by
        rcases Nat.eq_zero_or_pos (i - ps.length) with h0 | h0
        · exact h0
        · rw [List.getElem?_eq_none (by simp; omega)] at hi; cases hi
      have e1 : i - Q.l.length = 0 := by omega
      rw [h0] at hi
      rw [e1] at hv
      simp at hi hv
      subst hi hv
      exact (hbx _ _ hp).trans hp
  · show (Q.l ++ [v]).length ≤ Q.cap
    simp; omega
  · rw [size_setChan]; exact hb.size
/-- The first thing has been taken. -/
theorem QAt.pop (h : QAt TQ TE B w q c Q) {v : Value} {t : List Value} (hl : Q.l = v :: t) {s r : Nat} {ps : List Nat} (hx : Boxes TE w ps Q.l) :
    QAt TQ TE B (w.setChan c Q.cap ((bufQ ps).extract 1 (bufQ ps).size) Q.cl s r false) q c { Q with l := t } ∧ Only q c w (w.setChan c Q.cap ((bufQ ps).extract 1 (bufQ ps).size) Q.cl s r false) := by
  obtain ⟨s0, r0, ps0, hc0, _⟩ := h.chan
  have hclt := block_ltQ hc0
  have hoth : ∀ k, k ≠ c → (w.setChan c Q.cap ((bufQ ps).extract 1 (bufQ ps).size) Q.cl s r false).heap[k]? = w.heap[k]? := fun k hk => by
    simp [World.setChan, Array.getElem?_setIfInBounds_ne (Ne.symm hk)]
  have hbx : ∀ (k : Nat) (u : Value), w.heap[k]? = some (Obj.cells #[u] TE (0, 0)) → (w.setChan c Q.cap ((bufQ ps).extract 1 (bufQ ps).size) Q.cl s r false).heap[k]? = w.heap[k]? := fun k u hk => hoth k (h.box_ne hk).2
  have hlen := hx.1
  rw [hl] at hlen
  obtain ⟨p, ps', rfl⟩ : ∃ p ps', ps = p :: ps' := by cases ps with | nil => simp at hlen | cons p ps' => exact ⟨p, ps', rfl⟩
  simp at hlen
  refine ⟨⟨(hoth q h.ne).trans h.box, ⟨s, r, ps', ?_, hlen, fun i p' v' hi hv => ?_⟩, h.lo, ?_, h.most⟩, ⟨rfl, rfl, rfl, by rw [size_setChan]; omega, fun k hk h1 h2 => hoth k h2⟩⟩
  · rw [heap_setChan _ _ _ _ _ _ _ _ hclt]
    simp [bufQ]
    exact List.take_of_length_le (by simp)
  · have := hx.2 (i + 1) p' v' (by simpa using hi) (by rw [hl]; simpa using hv)
    exact (hbx _ _ this).trans this
  · have := h.room
    rw [hl] at this
    show t.length ≤ Q.cap
    simp at this; omega
/-- The queue has been closed. -/
theorem QAt.shut (h : QAt TQ TE B w q c Q) {s r : Nat} {ps : List Nat} (hx : Boxes TE w ps Q.l) :
    QAt TQ TE B ((w.setCell ⟨q, 1, none⟩ (.bool true)).setChan c Q.cap (bufQ ps) true s r false) q c { Q with cl := true } ∧ Only q c w ((w.setCell ⟨q, 1, none⟩ (.bool true)).setChan c Q.cap (bufQ ps) true s r false) := by
  obtain ⟨s0, r0, ps0, hc0, _⟩ := h.chan
  have hclt := block_ltQ hc0
  have hne := h.ne
  have hoth : ∀ k, k ≠ q → k ≠ c → ((w.setCell ⟨q, 1, none⟩ (.bool true)).setChan c Q.cap (bufQ ps) true s r false).heap[k]? = w.heap[k]? := fun k h1 h2 => by
    simp [World.setChan, World.setCell, Array.getElem?_setIfInBounds_ne (Ne.symm h2), Array.getElem?_modify, Ne.symm h1]
  refine ⟨⟨?_, ⟨s, r, ps, ?_, Boxes.kept hx fun k v hk => hoth k (h.box_ne hk).1 (h.box_ne hk).2⟩, h.lo, h.room, h.most⟩, ⟨rfl, rfl, rfl, by rw [size_setChan]; simp [World.setCell], fun k hk h1 h2 => hoth k h1 h2⟩⟩
  · have hb := h.box
    simp [World.setChan, World.setCell, Array.getElem?_setIfInBounds_ne (Ne.symm hne), Array.getElem?_modify, hb]
  · exact heap_setChan _ _ _ _ _ _ _ _ (by simp [World.setCell]; exact hclt)
end

/-- All that waits lies below U. -/
def LowB (U : Nat) (w : World) (c : Nat) : Prop := ∃ (cap s r : Nat) (cl : Bool) (ps : List Nat), w.heap[c]? = some (.chan cap (bufQ ps) cl s r false) ∧ ∀ p ∈ ps, p < U
/-- Block k is no thing that waits. -/
def Away (w : World) (c k : Nat) : Prop := ∀ (cap s r : Nat) (cl tm : Bool) (buf : Array Value), w.heap[c]? = some (.chan cap buf cl s r tm) → ptrQ k ∉ buf
theorem Away.at {w : World} {c k : Nat} {cap s r : Nat} {cl tm : Bool} {buf : Array Value} (h : w.heap[c]? = some (.chan cap buf cl s r tm)) (hk : ptrQ k ∉ buf) : Away w c k := fun _ _ _ _ _ _ h2 => by
  rw [h] at h2
  simp only [Option.some.injEq, Obj.chan.injEq] at h2
  rw [← h2.2.1]; exact hk
theorem Away.same {w w' : World} {c k : Nat} (h : Away w c k) (hc : w'.heap[c]? = w.heap[c]?) : Away w' c k := fun _ _ _ _ _ _ h2 => h _ _ _ _ _ _ (hc ▸ h2)
theorem Away.pop {w : World} {c k cap s r s' r' : Nat} {cl : Bool} {ps : List Nat} (h : Away w c k) (hc : w.heap[c]? = some (.chan cap (bufQ ps) cl s r false)) : Away (w.setChan c cap ((bufQ ps).extract 1 (bufQ ps).size) cl s' r' false) c k := by
  have hn := h _ _ _ _ _ _ hc
  have hlt : c < w.heap.size := by
    rcases Nat.lt_or_ge c w.heap.size with hl | hg
    · exact hl
    · rw [Array.getElem?_eq_none hg] at hc; cases hc
  refine Away.at (heap_setChan _ _ _ _ _ _ _ _ hlt) (fun hm => hn ?_)
  cases ps with
  | nil => simp [bufQ] at hm
  | cons p ps =>
    simp only [bufQ, List.map_cons, List.mem_toArray, List.mem_cons] at hn ⊢
    rw [show (bufQ (p :: ps)).extract 1 (bufQ (p :: ps)).size = bufQ ps by simp [bufQ]; exact List.take_of_length_le (by simp)] at hm
    simp only [bufQ, List.mem_toArray] at hm
    exact Or.inr hm
theorem ptrQ_inj {a b : Nat} (h : ptrQ a = ptrQ b) : a = b := by simpa [ptrQ] using h
theorem Away.push {w : World} {c k p cap s r s' r' : Nat} {cl cl' : Bool} {ps : List Nat} (h : Away w c k) (hc : w.heap[c]? = some (.chan cap (bufQ ps) cl s r false)) (hp : p ≠ k) : Away (w.setChan c cap ((bufQ ps).push (ptrQ p)) cl' s' r' false) c k := by
  have hn := h _ _ _ _ _ _ hc
  have hlt : c < w.heap.size := by
    rcases Nat.lt_or_ge c w.heap.size with hl | hg
    · exact hl
    · rw [Array.getElem?_eq_none hg] at hc; cases hc
  refine Away.at (heap_setChan _ _ _ _ _ _ _ _ hlt) (fun hm => ?_)
  rcases Array.mem_push.1 hm with h1 | h1
  · exact hn h1
  · exact hp (ptrQ_inj h1.symm)
theorem bufQ_inj {ps qs : List Nat} (h : bufQ ps = bufQ qs) : ps = qs := by
  unfold bufQ at h
  have h2 : ps.map ptrQ = qs.map ptrQ := by simpa using h
  exact List.map_inj_right (fun a b e => by simpa [ptrQ] using e) |>.1 h2
theorem LowB.pop {U : Nat} {w : World} {c cap s r s' r' : Nat} {cl : Bool} {ps : List Nat} (h : LowB U w c) (hc : w.heap[c]? = some (.chan cap (bufQ ps) cl s r false)) : LowB U (w.setChan c cap ((bufQ ps).extract 1 (bufQ ps).size) cl s' r' false) c := by
  obtain ⟨cap', a, b, cl', qs, h1, h2⟩ := h
  rw [hc] at h1
  simp only [Option.some.injEq, Obj.chan.injEq] at h1
  obtain rfl := bufQ_inj h1.2.1
  refine ⟨cap, s', r', cl, ps.tail, ?_, fun p hp => h2 p (List.mem_of_mem_tail hp)⟩
  rw [heap_setChan _ _ _ _ _ _ _ _ (block_ltQ hc)]
  cases ps with
  | nil => simp [bufQ]
  | cons p ps =>
    simp [bufQ]
    exact List.take_of_length_le (by simp)
theorem QAt.low {TQ TE : TypeId} {B : Nat} {w : World} {q c : Nat} {Q : Qs} (h : QAt TQ TE B w q c Q) : LowB w.heap.size w c := by
  obtain ⟨s, r, ps, hc, hx⟩ := h.chan
  refine ⟨_, _, _, _, ps, hc, fun p hp => ?_⟩
  obtain ⟨i, hi, rfl⟩ := List.getElem_of_mem hp
  have hl := hx.1
  exact block_ltQ (hx.2 i _ _ (List.getElem?_eq_getElem hi) (List.getElem?_eq_getElem (by omega)))
theorem QAt.away_nil {TQ TE : TypeId} {B : Nat} {w : World} {q c cap : Nat} {cl : Bool} (h : QAt TQ TE B w q c ⟨cap, [], cl⟩) (k : Nat) : Away w c k := by
  obtain ⟨s, r, ps, hc, hx⟩ := h.chan
  obtain rfl : ps = [] := List.eq_nil_of_length_eq_zero hx.1
  exact Away.at hc (by simp [bufQ])
/-- One block that is none of the queue's has turned. -/
theorem QAt.grown {TQ TE : TypeId} {B : Nat} {w w' : World} {q c : Nat} {Q : Qs} {row : Option Nat} (h : QAt TQ TE B w q c Q) (hg : w.grownBy w' row) (hr : ∀ k, row = some k → k ≠ q ∧ k ≠ c ∧ Away w c k) : QAt TQ TE B w' q c Q ∧ ∀ k, Away w c k → Away w' c k := by
  obtain ⟨s, r, ps, hc, hx⟩ := h.chan
  have hc' : w'.heap[c]? = w.heap[c]? := hg.block c (block_ltQ hc) (fun e => (hr c e.symm).2.1 rfl)
  refine ⟨⟨(hg.block q (block_ltQ h.box) (fun e => (hr q e.symm).1 rfl)).trans h.box, ⟨s, r, ps, hc'.trans hc, hx.1, fun i p v hp hv => ?_⟩, h.lo, h.room, h.most⟩, fun k hk => hk.same hc'⟩
  have hpp := hx.2 i p v hp hv
  refine (hg.block p (block_ltQ hpp) (fun e => ?_)).trans hpp
  refine (hr p e.symm).2.2 _ _ _ _ _ _ hc ?_
  simp only [bufQ, List.mem_toArray]
  exact List.mem_map_of_mem (List.mem_of_getElem? hp)
/-- A slice of the call's own is none of the queue's blocks. -/
theorem QAt.own_ne {TQ TE : TypeId} {B : Nat} {w : World} {q c : Nat} {Q : Qs} (h : QAt TQ TE B w q c Q) {base n size : Nat} {e : TypeId} {v : Value} {xs : List Value} (ho : w.ownsRow base e size v n xs) (he : e ≠ TQ) {k : Nat} (hk : v.ownBlock = some k) : k ≠ q ∧ k ≠ c := by
  rcases ho.2 with ⟨hv, _⟩ | ⟨g, cap, cur, hv, _, hgg, _⟩
  · rw [hv] at hk; cases hk
  · rw [hv] at hk
    simp [Value.ownBlock] at hk
    subst hk
    obtain ⟨s, r, ps, hc, _⟩ := h.chan
    have hb := h.box
    refine ⟨fun e1 => ?_, fun e1 => ?_⟩
    · rw [e1, hb] at hgg; simp only [Option.some.injEq, Obj.cells.injEq] at hgg; exact he hgg.2.1.symm
    · rw [e1, hc] at hgg; cases hgg
/-- What lies above U has turned alone. -/
theorem QAt.low_kept {TQ TE : TypeId} {B U : Nat} {w w' : World} {q c : Nat} {Q : Qs} (h : QAt TQ TE B w q c Q) (hl : LowB U w c) (hq : q < U) (hc : c < U) (hb : Below U w w') : QAt TQ TE B w' q c Q ∧ LowB U w' c := by
  obtain ⟨s, r, ps, hcc, hx⟩ := h.chan
  obtain ⟨cap', a, b, cl', qs, h1, h2⟩ := hl
  have h3 := h1
  rw [hcc] at h1
  simp only [Option.some.injEq, Obj.chan.injEq] at h1
  obtain rfl := bufQ_inj h1.2.1
  refine ⟨⟨(hb.block q hq).trans h.box, ⟨s, r, ps, (hb.block c hc).trans hcc, hx.1, fun i p v hp hv => ?_⟩, h.lo, h.room, h.most⟩, ⟨_, _, _, _, ps, (hb.block c hc).trans h3, h2⟩⟩
  exact (hb.block p (h2 p (List.mem_of_getElem? hp))).trans (hx.2 i p v hp hv)
theorem Only.low {q c : Nat} {w w1 w2 : World} (h : Only q c w w1) (hb : Below w.heap.size w1 w2) : Only q c w w2 :=
  ⟨hb.os.trans h.os, hb.tape.trans h.tape, hb.output.trans h.output, Nat.le_trans h.size hb.size, fun k hk h1 h2 => (hb.block k hk).trans (h.block k hk h1 h2)⟩
theorem own_same {w w' : World} {B : Nat} {e : TypeId} {v : Value} {n : Nat} {xs : List Value} {size : Nat} (h : w.ownsRow B e size v n xs) (hb : ∀ k, v.ownBlock = some k → w'.heap[k]? = w.heap[k]?) : w'.ownsRow B e size v n xs := by
  refine ⟨h.1, ?_⟩
  rcases h.2 with hn | ⟨g, cap, cur, rfl, hbb, hgg, rest⟩
  · exact .inl hn
  · exact .inr ⟨g, cap, cur, rfl, hbb, (hb g rfl).trans hgg, rest⟩
/-- All but four blocks is as it was. -/
structure Only4 (q c p d : Nat) (w w' : World) : Prop where
  os : w'.os = w.os
  tape : w'.tape = w.tape
  output : w'.output = w.output
  size : w.heap.size ≤ w'.heap.size
  block : ∀ k, k < w.heap.size → k ≠ q → k ≠ c → k ≠ p → k ≠ d → w'.heap[k]? = w.heap[k]?
theorem Only4.refl (q c p d : Nat) (w : World) : Only4 q c p d w w := ⟨rfl, rfl, rfl, Nat.le_refl _, fun _ _ _ _ _ _ => rfl⟩
theorem Only4.trans {q c p d : Nat} {w w1 w2 : World} (h : Only4 q c p d w w1) (k : Only4 q c p d w1 w2) : Only4 q c p d w w2 :=
  ⟨k.os.trans h.os, k.tape.trans h.tape, k.output.trans h.output, Nat.le_trans h.size k.size, fun i hi h1 h2 h3 h4 => (k.block i (Nat.lt_of_lt_of_le hi h.size) h1 h2 h3 h4).trans (h.block i hi h1 h2 h3 h4)⟩
theorem Only4.of_below {q c p d : Nat} {w w' : World} (h : Below w.heap.size w w') : Only4 q c p d w w' := ⟨h.os, h.tape, h.output, h.size, fun k hk _ _ _ _ => h.block k hk⟩
theorem Only4.fst {q c p d : Nat} {w w' : World} (h : Only q c w w') : Only4 q c p d w w' := ⟨h.os, h.tape, h.output, h.size, fun k hk h1 h2 _ _ => h.block k hk h1 h2⟩
theorem Only4.snd {q c p d : Nat} {w w' : World} (h : Only p d w w') : Only4 q c p d w w' := ⟨h.os, h.tape, h.output, h.size, fun k hk _ _ h1 h2 => h.block k hk h1 h2⟩
theorem Only4.below {q c p d B : Nat} {w w' : World} (h : Only4 q c p d w w') (hq : B ≤ q) (hc : B ≤ c) (hp : B ≤ p) (hd : B ≤ d) (hB : B ≤ w.heap.size) : Below B w w' :=
  ⟨h.os, h.tape, h.output, h.size, fun k hk => h.block k (by omega) (by omega) (by omega) (by omega) (by omega)⟩
def roomOf (Q : Qs) : Int := if Q.cl then 0 else Q.cap - Q.l.length
def roomN (Q : Qs) : Nat := if Q.cl then 0 else Q.cap - Q.l.length
def mvK (n m : Nat) (most : Int) : Nat := min (min most.toNat n) m
theorem LowB.same {U : Nat} {w w' : World} {c : Nat} (h : LowB U w c) (hc : w'.heap[c]? = w.heap[c]?) : LowB U w' c := by
  obtain ⟨a, b, d, e, ps, h1, h2⟩ := h
  exact ⟨a, b, d, e, ps, hc.trans h1, h2⟩
theorem QAt.clt {TQ TE : TypeId} {B : Nat} {w : World} {q c : Nat} {Q : Qs} (h : QAt TQ TE B w q c Q) : c < w.heap.size := by
  obtain ⟨_, _, _, hc, _⟩ := h.chan; exact block_ltQ hc
theorem QAt.cross {TQ TE TQ' TE' : TypeId} {B B' : Nat} {w : World} {q c p d : Nat} {Q Q' : Qs} (h : QAt TQ TE B w q c Q) (h' : QAt TQ' TE' B' w p d Q') : c ≠ p ∧ d ≠ q := by
  obtain ⟨_, _, _, hc, _⟩ := h.chan
  obtain ⟨_, _, _, hd, _⟩ := h'.chan
  have hb := h.box
  have hb' := h'.box
  exact ⟨fun e => (by rw [← e, hc] at hb'; cases hb'), fun e => (by rw [← e, hd] at hb; cases hb)⟩
/-- What a Move may do. -/
structure O4 (q c p d : Nat) (w w' : World) : Prop where
  only : Only4 q c p d w w'
  low : ∀ U, LowB U w c → LowB U w' c
  af : ∀ k, Away w c k → Away w' c k
  at' : ∀ k, k < w.heap.size → Away w d k → Away w' d k
theorem O4.refl (q c p d : Nat) (w : World) : O4 q c p d w w := ⟨Only4.refl _ _ _ _ _, fun _ h => h, fun _ h => h, fun _ _ h => h⟩
theorem O4.trans {q c p d : Nat} {w w1 w2 : World} (h : O4 q c p d w w1) (k : O4 q c p d w1 w2) : O4 q c p d w w2 :=
  ⟨h.only.trans k.only, fun U hu => k.low U (h.low U hu), fun i hi => k.af i (h.af i hi), fun i hi ha => k.at' i (Nat.lt_of_lt_of_le hi h.only.size) (h.at' i hi ha)⟩
theorem O4.of_below {q c p d : Nat} {w w' : World} (h : Below w.heap.size w w') (hc : c < w.heap.size) (hd : d < w.heap.size) : O4 q c p d w w' :=
  ⟨Only4.of_below h, fun _ hu => hu.same (h.block c hc), fun _ ha => ha.same (h.block c hc), fun _ _ ha => ha.same (h.block d hd)⟩
theorem O4.fst {q c p d : Nat} {w w' : World} (h : Only q c w w') (hu : ∀ U, LowB U w c → LowB U w' c) (ha : ∀ k, Away w c k → Away w' c k) (hd : d < w.heap.size) (h1 : d ≠ q) (h2 : d ≠ c) : O4 q c p d w w' :=
  ⟨Only4.fst h, hu, ha, fun _ _ hh => hh.same (h.block d hd h1 h2)⟩
theorem O4.snd {q c p d : Nat} {w w' : World} (h : Only p d w w') (ha : ∀ k, k < w.heap.size → Away w d k → Away w' d k) (hc : c < w.heap.size) (h1 : c ≠ p) (h2 : c ≠ d) : O4 q c p d w w' :=
  ⟨Only4.snd h, fun _ hh => hh.same (h.block c hc h1 h2), fun _ hh => hh.same (h.block c hc h1 h2), ha⟩
def lenV : Value → Nat
  | .slice _ n _ => n
  | _ => 0
theorem lenV_own {w : World} {base n : Nat} {e : TypeId} {v : Value} {xs : List Value} {sz : Nat} (h : w.ownsRow base e sz v n xs) : lenV v = n := by
  rcases h.2 with ⟨hv, hn⟩ | ⟨g, cap, cur, hv, _⟩
  · rw [hv, hn]; rfl
  · rw [hv]; rfl
theorem own_slice {w : World} {base n : Nat} {e : TypeId} {v : Value} {xs : List Value} {sz : Nat} (h : w.ownsRow base e sz v n xs) : ∃ A c, v = .slice A n c := by
  rcases h.2 with ⟨hv, hn⟩ | ⟨g, cap, cur, hv, _⟩
  · exact ⟨none, 0, by rw [hv, hn]⟩
  · exact ⟨_, cap, hv⟩

/-- A call of a lone walk, by its contract. -/
theorem LoneTo.call {P : Program} {Z : Goroutine → World → Prop} {b : Frame} {a : Act} {k : List Item} {cs : List Frame} {w : World} {ops : Array Oper} {i : Nat} {rest : List Nat} {o : Oper} {f : FuncId} {fn : Func} {c : Code} {args : Array Operand} {ats : Array TypeId} {R : Ending → World → Prop}
    (ho : ops[i]? = some o) (hw : Region.wanted o (yielded ops a.tmps) = true) (hk : b.kind ≠ .early) (hop : o.op = .call { callee := .value (.func f), args, argTypes := ats })
    (hf : P.funcs[f]? = some fn) (hname : (fn.name == "runtime.NumGoroutine") = false) (hb : fn.body = some c) {vals : Array Value} (hv : args.map a.eval = vals) (hc : Calls P f vals w R)
    (h : ∀ e w', R e w' → ∃ v, e = .returned v ∧ LoneTo P Z (G (b.at (a.put ((ops[i]?).bind (·.dst)) v) (.inRegion ops rest :: k)) cs) w') :
    LoneTo P Z (G (b.at a (.inRegion ops (i :: rest) :: k)) cs) w := by
  subst hv
  have hb' : fn.body.isNone = false := by rw [hb]; rfl
  obtain ⟨e, w', fr, hR, hcm, hfn, hl⟩ := hc (b.at a (.inRegion ops (i :: rest) :: k) :: cs)
  obtain ⟨v, rfl, g', w2, hs, hq⟩ := h e w' hR
  refine ⟨g', w2, ?_, hq⟩
  have h1 := step_solo_go rfl (stepG_enter (P := P) (main := true) (w := w) (rest := rest) (cs := cs) (b := b) (a := a) (k := k) ho hw hk (run_call_body (P := P) (w := w) hop hf hname hb'))
  refine Steps.head h1 ?_
  refine Steps.trans hcm ?_
  refine Steps.head (step_leave_returned hl) ?_
  rw [Frame.finish_at]
  exact hs
end Go.Proofs.Ythimgldohhaimaa
