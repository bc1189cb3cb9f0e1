/-
  QueueDoes: two queues, and the document's own two, in one memory: what each kind of turn leaves.
-/
import Derived.Test.YthimgldohhaimaaQuOpen
namespace Go.Proofs.Ythimgldohhaimaa
open Go.RowKit Go.Conc

structure Ids where
  q : Nat
  c : Nat
  p : Nat
  d : Nat
  x : Nat
  y : Nat
  n : Nat
  m : Nat
def Ids.swap (i : Ids) : Ids := ⟨i.p, i.d, i.q, i.c, i.y, i.x, i.m, i.n⟩
/-- What two queues hold, and what the document's own hold. -/
structure St where
  xq : List Int
  cq : Bool
  xr : List Int
  cr : Bool
  yq : List Int
  dq : Bool
  yr : List Int
  dr : Bool
def St.swap (s : St) : St := ⟨s.yq, s.dq, s.yr, s.dr, s.xq, s.cq, s.xr, s.cr⟩
/-- The document's own queue in memory. -/
structure RefAt (B : Nat) (w : World) (x : Nat) (v : Value) (n : Nat) (L : List Int) (cl : Bool) : Prop where
  box : w.heap[x]? = some (.cells #[v, .int .i64 n, .bool cl] 88 (0, 0))
  own : w.ownsRow B 3 1 v L.length (L.map (Value.int .i64))
  lo : B ≤ x
  room : L.length ≤ n ∧ n ≤ 1024
structure DSv (B : Nat) (w : World) (i : Ids) (s : St) (vx vy : Value) : Prop where
  a : QatI B w i.q i.c ⟨i.n, s.xq.map (Value.int .i64), s.cq⟩
  b : QatI B w i.p i.d ⟨i.m, s.yq.map (Value.int .i64), s.dq⟩
  ra : RefAt B w i.x vx i.n s.xr s.cr
  rb : RefAt B w i.y vy i.m s.yr s.dr
  ne : i.q ≠ i.p ∧ i.c ≠ i.d ∧ i.x ≠ i.y
  apart : ∀ k, vx.ownBlock = some k → vy.ownBlock ≠ some k
  awx : ∀ k, vx.ownBlock = some k → Away w i.c k ∧ Away w i.d k
  awy : ∀ k, vy.ownBlock = some k → Away w i.c k ∧ Away w i.d k
def DS (B : Nat) (w : World) (i : Ids) (s : St) : Prop := ∃ vx vy, DSv B w i s vx vy
theorem DSv.swap {B : Nat} {w : World} {i : Ids} {s : St} {vx vy : Value} (h : DSv B w i s vx vy) : DSv B w i.swap s.swap vy vx :=
  ⟨h.b, h.a, h.rb, h.ra, ⟨Ne.symm h.ne.1, Ne.symm h.ne.2.1, Ne.symm h.ne.2.2⟩, fun k h1 h2 => h.apart k h2 h1, fun k hk => (h.awy k hk).symm, fun k hk => (h.awx k hk).symm⟩
theorem DS.swap {B : Nat} {w : World} {i : Ids} {s : St} (h : DS B w i s) : DS B w i.swap s.swap := by
  obtain ⟨vx, vy, h⟩ := h; exact ⟨vy, vx, h.swap⟩
theorem DS.unswap {B : Nat} {w : World} {i : Ids} {s : St} (h : DS B w i.swap s.swap) : DS B w i s := h.swap
/-- What these calls never lie in. -/
def outF : Obj → Bool
  | .cells _ t _ => t != 86 && t != 88 && t != 3
  | .chan .. => false
  | _ => true
structure Qg (B : Nat) (w w' : World) : Prop where
  below : Below B w w'
  typ : ∀ (k : Nat) (o : Obj), w.heap[k]? = some o → outF o = true → w'.heap[k]? = some o
theorem Qg.refl (B : Nat) (w : World) : Qg B w w := ⟨Below.refl _ _, fun _ _ h _ => h⟩
theorem Qg.trans {B : Nat} {w w1 w2 : World} (h : Qg B w w1) (k : Qg B w1 w2) : Qg B w w2 := ⟨h.below.trans k.below, fun i o hi ho => k.typ i o (h.typ i o hi ho) ho⟩
theorem Qg.of_below {B : Nat} {w w' : World} (hB : B ≤ w.heap.size) (h : Below w.heap.size w w') : Qg B w w' := ⟨h.mono hB, fun k _ hk _ => (h.block k (block_ltQ hk)).trans hk⟩
section
variable {B : Nat} {w w' : World} {q c x : Nat} {Q : Qs} {vx v : Value} {n : Nat} {L : List Int} {cl : Bool}
theorem Only.qg (h : QatI B w q c Q) (ho : Only q c w w') : Qg B w w' := by
  refine ⟨ho.below h.lo.1 h.lo.2 h.lt, fun k o hk hko => ?_⟩
  obtain ⟨_, _, _, hc, _⟩ := h.chan
  have hb := h.box
  refine (ho.block k (block_ltQ hk) (fun e => ?_) (fun e => ?_)).trans hk
  · rw [e, hb] at hk; cases hk; simp [outF] at hko
  · rw [e, hc] at hk; cases hk; simp [outF] at hko
theorem RefAt.ne (h : RefAt B w x v n L cl) (hq : QatI B w q c Q) : x ≠ q ∧ x ≠ c := by
  obtain ⟨_, _, _, hc, _⟩ := hq.chan
  have hb := hq.box
  have hx := h.box
  exact ⟨fun e => (by rw [e, hb] at hx; simp at hx), fun e => (by rw [e, hc] at hx; cases hx)⟩
theorem own_ty {base k size : Nat} {e : TypeId} {u : Value} {m : Nat} {xs : List Value} (ho : w.ownsRow base e size u m xs) (hk : u.ownBlock = some k) : ∃ cs fr, w.heap[k]? = some (.cells cs e fr) := by
  rcases ho.2 with ⟨hv, _⟩ | ⟨g, cap, cur, hv, hb, hgg, _⟩
  · rw [hv] at hk; cases hk
  · rw [hv] at hk
    simp [Value.ownBlock] at hk
    subst hk
    exact ⟨cur, _, hgg⟩
theorem RefAt.own_ne (h : RefAt B w x v n L cl) {base k size m : Nat} {u : Value} {xs : List Value} (ho : w.ownsRow base 3 size u m xs) (hk : u.ownBlock = some k) : k ≠ x := fun e => by
  obtain ⟨cs, fr, h1⟩ := own_ty ho hk
  rw [e, h.box] at h1
  simp only [Option.some.injEq, Obj.cells.injEq] at h1
  exact absurd h1.2.1 (by decide)
/-- Blocks that are none of the queue's have turned. -/
theorem QAt.turned {TQ TE : TypeId} (h : QAt TQ TE B w q c Q) (hq : w'.heap[q]? = w.heap[q]?) (hc : w'.heap[c]? = w.heap[c]?) (hb : ∀ (k : Nat) (u : Value), w.heap[k]? = some (Obj.cells #[u] TE (0, 0)) → ¬ Away w c k → w'.heap[k]? = w.heap[k]?) : QAt TQ TE B w' q c Q := by
  obtain ⟨s, r, ps, hcc, hx⟩ := h.chan
  refine ⟨hq.trans h.box, ⟨s, r, ps, hc.trans hcc, hx.1, fun i p u hp hu => ?_⟩, h.lo, h.room, h.most⟩
  have hpp := hx.2 i p u hp hu
  refine (hb p u hpp (fun ha => ?_)).trans hpp
  refine ha _ _ _ _ _ _ hcc ?_
  simp only [bufQ, List.mem_toArray]
  exact List.mem_map_of_mem (List.mem_of_getElem? hp)
theorem QAt.away_ge {TQ TE : TypeId} (h : QAt TQ TE B w q c Q) {k : Nat} (hk : w.heap.size ≤ k) : Away w c k := by
  obtain ⟨s, r, ps, hc, hx⟩ := h.chan
  refine Away.at hc (fun hm => ?_)
  simp only [bufQ, List.mem_toArray] at hm
  obtain ⟨p, hp, he⟩ := List.mem_map.1 hm
  obtain ⟨j, hj, rfl⟩ := List.getElem_of_mem hp
  have hl := hx.1
  have := block_ltQ (hx.2 j _ _ (List.getElem?_eq_getElem hj) (List.getElem?_eq_getElem (by omega)))
  have := ptrQ_inj he
  omega
end
section
variable {B : Nat} {w w' : World} {i : Ids} {s : St} {vx vy : Value}
/-- The first queue has been at work. -/
theorem DSv.qstep (h : DSv B w i s vx vy) {X : List Int} {cl : Bool} (hq : QatI B w' i.q i.c ⟨i.n, X.map (Value.int .i64), cl⟩) (ho : Only i.q i.c w w') (ha : ∀ k, k < w.heap.size → Away w i.c k → Away w' i.c k) : DSv B w' i { s with xq := X, cq := cl } vx vy ∧ Qg B w w' := by
  have h1 := h.ra.ne h.a
  have h2 := h.rb.ne h.a
  have hcr := h.a.cross h.b
  have hd : w'.heap[i.d]? = w.heap[i.d]? := ho.block i.d h.b.clt hcr.2 (Ne.symm h.ne.2.1)
  have ox : w'.ownsRow B 3 1 vx s.xr.length (s.xr.map (Value.int .i64)) := own_same h.ra.own fun k hk => ho.block k (h.ra.own.lt k hk).2 (h.a.own_ne h.ra.own (by decide) hk).1 (h.a.own_ne h.ra.own (by decide) hk).2
  have oy : w'.ownsRow B 3 1 vy s.yr.length (s.yr.map (Value.int .i64)) := own_same h.rb.own fun k hk => ho.block k (h.rb.own.lt k hk).2 (h.a.own_ne h.rb.own (by decide) hk).1 (h.a.own_ne h.rb.own (by decide) hk).2
  refine ⟨⟨hq, h.b.other h.a ho (Ne.symm h.ne.1) (Ne.symm h.ne.2.1), ⟨(ho.block i.x (block_ltQ h.ra.box) h1.1 h1.2).trans h.ra.box, ox, h.ra.lo, h.ra.room⟩, ⟨(ho.block i.y (block_ltQ h.rb.box) h2.1 h2.2).trans h.rb.box, oy, h.rb.lo, h.rb.room⟩, h.ne, h.apart, fun k hk => ⟨ha k (h.ra.own.lt k hk).2 (h.awx k hk).1, (h.awx k hk).2.same hd⟩, fun k hk => ⟨ha k (h.rb.own.lt k hk).2 (h.awy k hk).1, (h.awy k hk).2.same hd⟩⟩, Only.qg h.a ho⟩
/-- The document's own first queue has been at work. -/
theorem DSv.rstep (h : DSv B w i s vx vy) {X : List Int} {cl : Bool} {vx' : Value} (hr : RefAt B w' i.x vx' i.n X cl) (hb : Below B w w') (ho : ∀ k, k < w.heap.size → k ≠ i.x → vx.ownBlock ≠ some k → w'.heap[k]? = w.heap[k]?) (hv : ∀ k, vx'.ownBlock = some k → vx.ownBlock = some k ∨ w.heap.size ≤ k) : DSv B w' i { s with xr := X, cr := cl } vx' vy ∧ Qg B w w' := by
  have h1 := h.ra.ne h.a
  have h2 := h.ra.ne h.b
  have hq : w'.heap[i.q]? = w.heap[i.q]? := ho i.q (block_ltQ h.a.box) (Ne.symm h1.1) (fun e => (h.a.own_ne h.ra.own (by decide) e).1 rfl)
  have hc : w'.heap[i.c]? = w.heap[i.c]? := ho i.c h.a.clt (Ne.symm h1.2) (fun e => (h.a.own_ne h.ra.own (by decide) e).2 rfl)
  have hp : w'.heap[i.p]? = w.heap[i.p]? := ho i.p (block_ltQ h.b.box) (Ne.symm h2.1) (fun e => (h.b.own_ne h.ra.own (by decide) e).1 rfl)
  have hd : w'.heap[i.d]? = w.heap[i.d]? := ho i.d h.b.clt (Ne.symm h2.2) (fun e => (h.b.own_ne h.ra.own (by decide) e).2 rfl)
  have hy : w'.heap[i.y]? = w.heap[i.y]? := ho i.y (block_ltQ h.rb.box) (Ne.symm h.ne.2.2) (fun e => h.rb.own_ne h.ra.own e rfl)
  have bx : ∀ (k : Nat) (u : Value), w.heap[k]? = some (Obj.cells #[u] 3 (0, 0)) → k ≠ i.x := fun k u hk e => by
    have := h.ra.box; rw [← e, hk] at this; simp at this
  refine ⟨⟨h.a.turned hq hc fun k u hk hna => ho k (block_ltQ hk) (bx k u hk) (fun e => hna (h.awx k e).1), h.b.turned hp hd fun k u hk hna => ho k (block_ltQ hk) (bx k u hk) (fun e => hna (h.awx k e).2), hr, ⟨hy.trans h.rb.box, own_same h.rb.own fun k hk => ho k (h.rb.own.lt k hk).2 (h.ra.own_ne h.rb.own hk) (fun e => h.apart k e hk), h.rb.lo, h.rb.room⟩, h.ne, fun k hk e => ?_, fun k hk => ?_, fun k hk => ⟨(h.awy k hk).1.same hc, (h.awy k hk).2.same hd⟩⟩, hb, fun k o hk hko => ?_⟩
  · rcases hv k hk with h3 | h3
    · exact h.apart k h3 e
    · have := (h.rb.own.lt k e).2; omega
  · rcases hv k hk with h3 | h3
    · exact ⟨(h.awx k h3).1.same hc, (h.awx k h3).2.same hd⟩
    · exact ⟨(h.a.away_ge h3).same hc, (h.b.away_ge h3).same hd⟩
  · refine (ho k (block_ltQ hk) (fun e => ?_) (fun e => ?_)).trans hk
    · rw [e, h.ra.box] at hk; cases hk; simp [outF] at hko
    · obtain ⟨cs, fr, h3⟩ := own_ty h.ra.own e
      rw [h3] at hk; cases hk; simp [outF] at hko
theorem DS.kept (h : DS B w i s) (hb : Below w.heap.size w w') : DS B w' i s := by
  obtain ⟨vx, vy, h⟩ := h
  exact ⟨vx, vy, (h.qstep (h.a.kept hb) (Only.of_below hb) fun _ _ ha => ha.same (hb.block _ h.a.clt)).1⟩
theorem DS.lt (h : DS B w i s) : B ≤ w.heap.size := by
  obtain ⟨vx, vy, h⟩ := h; exact h.a.lt
end
end Go.Proofs.Ythimgldohhaimaa
