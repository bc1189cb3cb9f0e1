/-
  QueueDoes: each call of the program's own queue, beside all else.
-/
import Derived.Test.YthimgldohhaimaaQv1
namespace Go.Proofs.Ythimgldohhaimaa
open Go.RowKit Go.Conc

def canPut (cl : Bool) (n : Nat) (l : List Int) : Bool := !cl && decide (l.length < n)
section
variable {B : Nat} {w : World} {i : Ids} {s : St}
theorem ds_put (h : DS B w i s) (z : Int) :
    Calls Try.prog 17 #[.pointer (some ⟨i.q, 0, none⟩), .int .i64 z] w fun e w' => e = .returned (.bool (canPut s.cq i.n s.xq)) ∧ DS B w' i { s with xq := if canPut s.cq i.n s.xq then s.xq ++ [z] else s.xq } ∧ Qg B w w' := by
  obtain ⟨vx, vy, h⟩ := h
  have ha := h.a
  cases hcl : s.cq with
  | true =>
    rw [hcl] at ha
    refine (putI_shut z ha).mono ?_
    rintro e w' ⟨rfl, hb⟩
    have hs := DS.kept ⟨vx, vy, h⟩ hb
    refine ⟨rfl, ?_, Qg.of_below ha.lt hb⟩
    simp only [canPut, Bool.not_true, Bool.false_and, Bool.false_eq_true, if_false]
    have : ({ s with xq := s.xq } : St) = s := rfl
    rw [← hcl]
    exact hs
  | false =>
    rw [hcl] at ha
    by_cases hr : s.xq.length < i.n
    · refine (putI_room z ha (by rw [List.length_map]; exact hr)).mono ?_
      rintro e w' ⟨rfl, hq, ho, haw⟩
      have hst := h.qstep (X := s.xq ++ [z]) (cl := false) (by rw [List.map_append]; exact hq) ho haw
      have hc : canPut false i.n s.xq = true := by simp [canPut, hr]
      refine ⟨by rw [hc], ⟨vx, vy, ?_⟩, hst.2⟩
      rw [hc, if_pos rfl, ← hcl]
      rw [← hcl] at hst
      exact hst.1
    · refine (putI_full z ha (by rw [List.length_map]; exact hr)).mono ?_
      rintro e w' ⟨rfl, hb⟩
      have hs := DS.kept ⟨vx, vy, h⟩ hb
      have hc : canPut false i.n s.xq = false := by simp [canPut, hr]
      refine ⟨by rw [hc], ?_, Qg.of_below ha.lt hb⟩
      rw [hc, if_neg (by simp), ← hcl]
      exact hs
theorem ds_take (h : DS B w i s) :
    Calls Try.prog 18 #[.pointer (some ⟨i.q, 0, none⟩)] w fun e w' => e = .returned (.tuple #[.int .i64 (hdI s.xq), .bool (decide (0 < s.xq.length))]) ∧ DS B w' i { s with xq := s.xq.tail } ∧ Qg B w w' := by
  obtain ⟨vx, vy, h⟩ := h
  refine (takeI_any h.a s.xq rfl).mono ?_
  rintro e w' ⟨rfl, hq, ho, _, haw⟩
  have hst := h.qstep hq ho fun k _ => haw k
  exact ⟨rfl, ⟨vx, vy, hst.1⟩, hst.2⟩
theorem ds_close (h : DS B w i s) :
    Calls Try.prog 27 #[.pointer (some ⟨i.q, 0, none⟩)] w fun e w' => e = .returned (.bool (!s.cq)) ∧ DS B w' i { s with cq := true } ∧ Qg B w w' := by
  obtain ⟨vx, vy, h⟩ := h
  have ha := h.a
  cases hcl : s.cq with
  | true =>
    rw [hcl] at ha
    refine (closeI_shut ha).mono ?_
    rintro e w' ⟨rfl, rfl⟩
    refine ⟨rfl, ⟨vx, vy, ?_⟩, Qg.refl _ _⟩
    rw [← hcl]; exact h
  | false =>
    rw [hcl] at ha
    refine (closeI_open ha).mono ?_
    rintro e w' ⟨rfl, hq, ho, haw⟩
    have hst := h.qstep hq ho fun k _ => haw k
    exact ⟨rfl, ⟨vx, vy, hst.1⟩, hst.2⟩
theorem ds_all (h : DS B w i s) :
    Calls Try.prog 19 #[.pointer (some ⟨i.q, 0, none⟩)] w fun e w' => (∃ A c, e = .returned (.slice A s.xq.length c) ∧ IntsQ w' A s.xq) ∧ DS B w' i { s with xq := [] } ∧ Qg B w w' ∧ (∀ (k : Nat) (cs : Array Value) (fr : Nat × Nat), w.heap[k]? = some (Obj.cells cs 3 fr) → w'.heap[k]? = some (Obj.cells cs 3 fr)) := by
  obtain ⟨vx, vy, h⟩ := h
  refine (allI_any s.xq h.a).mono ?_
  rintro e w' ⟨v, rfl, hv, hq, ho, _⟩
  have hst := h.qstep (X := []) hq ho fun k _ _ => hq.away_nil k
  obtain ⟨A, c, rfl, hi⟩ := ints_ofQ hv
  refine ⟨⟨A, c, rfl, hi⟩, ⟨vx, vy, hst.1⟩, hst.2, fun k cs fr hk => ?_⟩
  obtain ⟨_, _, _, hc, _⟩ := h.a.chan
  have hb := h.a.box
  refine (ho.block k (block_ltQ hk) (fun e => ?_) (fun e => ?_)).trans hk
  · rw [e, hb] at hk; simp only [Option.some.injEq, Obj.cells.injEq] at hk; exact absurd hk.2.1 (by decide)
  · rw [e, hc] at hk; cases hk
theorem ds_len (h : DS B w i s) :
    Calls Try.prog 21 #[.pointer (some ⟨i.q, 0, none⟩)] w fun e w' => e = .returned (.int .i64 s.xq.length) ∧ w = w' := by
  obtain ⟨vx, vy, h⟩ := h
  have := lenI_any h.a
  rw [List.length_map] at this
  exact this
def roomZ (cl : Bool) (n : Nat) (l : List Int) : Int := if cl then 0 else n - l.length
theorem ds_room (h : DS B w i s) :
    Calls Try.prog 26 #[.pointer (some ⟨i.q, 0, none⟩)] w fun e w' => e = .returned (.int .i64 (roomZ s.cq i.n s.xq)) ∧ Below w.heap.size w w' := by
  obtain ⟨vx, vy, h⟩ := h
  have := roomI_any h.a
  unfold roomOf at this
  rw [List.length_map] at this
  exact this
theorem ds_closed (h : DS B w i s) :
    Calls Try.prog 28 #[.pointer (some ⟨i.q, 0, none⟩)] w fun e w' => e = .returned (.bool s.cq) ∧ w = w' := by
  obtain ⟨vx, vy, h⟩ := h
  exact closedI_any h.a
def moveN (xl yl : List Int) (m : Nat) (dl : Bool) (most : Int) : Nat := mvK xl.length (if dl then 0 else m - yl.length) most
theorem ds_move (h : DS B w i s) (most : Int) :
    Calls Try.prog 29 #[.pointer (some ⟨i.q, 0, none⟩), .pointer (some ⟨i.p, 0, none⟩), .int .i64 most] w fun e w' => e = .returned (.int .i64 (moveN s.xq s.yq i.m s.dq most)) ∧ DS B w' i { s with xq := s.xq.drop (moveN s.xq s.yq i.m s.dq most), yq := s.yq ++ s.xq.take (moveN s.xq s.yq i.m s.dq most) } ∧ Qg B w w' := by
  obtain ⟨vx, vy, h⟩ := h
  refine (moveI_any s.xq s.yq s.cq s.dq most h.a h.b h.ne.1 h.ne.2.1).mono ?_
  rintro e w' ⟨k, hk, rfl, hq, hp, ho⟩
  have hk2 : moveN s.xq s.yq i.m s.dq most = k := by rw [hk]; simp [moveN, roomN]
  rw [hk2]
  have x1 := h.ra.ne h.a
  have x2 := h.ra.ne h.b
  have y1 := h.rb.ne h.a
  have y2 := h.rb.ne h.b
  refine ⟨rfl, ⟨vx, vy, ⟨hq, hp, ⟨?_, ?_, h.ra.lo, h.ra.room⟩, ⟨?_, ?_, h.rb.lo, h.rb.room⟩, h.ne, h.apart, fun k hk => ⟨ho.af k (h.awx k hk).1, ho.at' k (h.ra.own.lt k hk).2 (h.awx k hk).2⟩, fun k hk => ⟨ho.af k (h.awy k hk).1, ho.at' k (h.rb.own.lt k hk).2 (h.awy k hk).2⟩⟩⟩, ho.only.below h.a.lo.1 h.a.lo.2 h.b.lo.1 h.b.lo.2 h.a.lt, fun k o hko hk => ?_⟩
  · exact (ho.only.block i.x (block_ltQ h.ra.box) x1.1 x1.2 x2.1 x2.2).trans h.ra.box
  · exact own_same h.ra.own fun k hk => ho.only.block k (h.ra.own.lt k hk).2 (h.a.own_ne h.ra.own (by decide) hk).1 (h.a.own_ne h.ra.own (by decide) hk).2 (h.b.own_ne h.ra.own (by decide) hk).1 (h.b.own_ne h.ra.own (by decide) hk).2
  · exact (ho.only.block i.y (block_ltQ h.rb.box) y1.1 y1.2 y2.1 y2.2).trans h.rb.box
  · exact own_same h.rb.own fun k hk => ho.only.block k (h.rb.own.lt k hk).2 (h.a.own_ne h.rb.own (by decide) hk).1 (h.a.own_ne h.rb.own (by decide) hk).2 (h.b.own_ne h.rb.own (by decide) hk).1 (h.b.own_ne h.rb.own (by decide) hk).2
  · obtain ⟨_, _, _, hc, _⟩ := h.a.chan
    obtain ⟨_, _, _, hd, _⟩ := h.b.chan
    have hb := h.a.box
    have hb2 := h.b.box
    refine (ho.only.block k (block_ltQ hko) (fun e => ?_) (fun e => ?_) (fun e => ?_) (fun e => ?_)).trans hko
    · rw [e, hb] at hko; cases hko; simp [outF] at hk
    · rw [e, hc] at hko; cases hko; simp [outF] at hk
    · rw [e, hb2] at hko; cases hko; simp [outF] at hk
    · rw [e, hd] at hko; cases hko; simp [outF] at hk
end
end Go.Proofs.Ythimgldohhaimaa
