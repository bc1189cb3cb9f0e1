/-
  Package queue, of one type: New, Closed, Len, Room.
-/
import Derived.Test.YthimgldohhaimaaQu2s
import Derived.KernelRfl
import Derived.BigRegion
namespace Go.Proofs.Ythimgldohhaimaa
open Go.RowKit Go.Conc

abbrev QatS (B : Nat) (w : World) (q c : Nat) (Q : Qs) : Prop := QAt 96 9 B w q c Q
theorem bytesS_p : ∃ i, Try.prog.info? 97 = some i ∧ i.bytes = 8 := by
  have h : (Try.prog.info? 97).map (·.bytes) = some 8 := by kernel_rfl
  obtain ⟨i, hi, hb⟩ := Option.map_eq_some_iff.1 h
  exact ⟨i, hi, hb⟩
theorem mkS_chan (n : Int) (h0 : 1 ≤ n) (h1 : n ≤ 1024) (w : World) : (Instr.makeChan 94 (.int .i64 n)).run Try.prog w = .ok (.chan (some w.heap.size)) (w.alloc (.chan n.toNat #[] false 0 0 false)) := by
  obtain ⟨i, hi, hb⟩ := bytesS_p
  have := run_makeChan (P := Try.prog) (w := w) Try.underlying94 hi .i64 n.toNat (by omega) (by rw [hb]; omega)
  rwa [Int.toNat_of_nonneg (by omega)] at this
/-- The queue that New makes. -/
theorem newS_at (B : Nat) (w : World) (hB : B ≤ w.heap.size) (n : Nat) (h0 : 1 ≤ n) (h1 : n ≤ 1024) :
    QatS B ((w.alloc (.chan n #[] false 0 0 false)).alloc (.cells #[.chan (some w.heap.size), .bool false] 96)) (w.heap.size + 1) w.heap.size ⟨n, [], false⟩ := by
  have hb := ba (w.alloc (.chan n #[] false 0 0 false)) (.cells #[.chan (some w.heap.size), .bool false] 96)
  refine ⟨?_, ⟨0, 0, [], ?_, rfl, fun i p v hp => by cases hp⟩, ⟨by omega, hB⟩, Nat.zero_le _, h0, h1⟩
  · have := (MapKept.heap_alloc (w.alloc (.chan n #[] false 0 0 false)) (.cells #[.chan (some w.heap.size), .bool false] 96)).1
    rwa [World.size_alloc] at this
  · exact (hb.block _ (by simp)).trans (MapKept.heap_alloc w _).1
def NewQEndS (w : World) (n : Int) (e : Ending) (w' : World) : Prop :=
  Below w.heap.size w w' ∧ if 1 ≤ n ∧ n ≤ 1024 then ∃ q c, e = .returned (.tuple #[.pointer (some ⟨q, 0, none⟩), .int .i64 0]) ∧ QatS w.heap.size w' q c ⟨n.toNat, [], false⟩
    else e = .returned (.tuple #[.pointer none, .int .i64 1])
set_option maxRecDepth 100000 in
set_option maxHeartbeats 1000000 in
theorem newS_any (n : Int) (w : World) :
    Calls Try.prog 22 #[.int .i64 n] w (NewQEndS w n) := by
  by_cases h0 : n < 1
  · have HN := Lib.hid (show ¬ (1 ≤ n ∧ n ≤ 1024) by omega)
    go_enter Try.func22, Try.ntmps22
    go_wp2_with fail
    go_ret2
    refine ⟨Below.refl _ _, ?_⟩
    rw [if_neg HN.out]
    rfl
  · by_cases h1 : 1024 < n
    · have HN := Lib.hid (show ¬ (1 ≤ n ∧ n ≤ 1024) by omega)
      go_enter Try.func22, Try.ntmps22
      go_wp2_with fail
      go_ret2
      refine ⟨Below.refl _ _, ?_⟩
      rw [if_neg HN.out]
      rfl
    · have HN := Lib.hid (show 1 ≤ n ∧ n ≤ 1024 by omega)
      have hmk := mkS_chan n (by omega) (by omega)
      have HQ := Lib.hid (newS_at w.heap.size w (Nat.le_refl _) n.toNat (by omega) (by omega))
      have HB := Lib.hid (ba2 w (.chan n.toNat #[] false 0 0 false) (.cells #[.chan (some w.heap.size), .bool false] 96))
      go_enter Try.func22, Try.ntmps22
      go_wp2_with fail
      go_ret2
      refine ⟨HB.out, ?_⟩
      rw [if_pos HN.out]
      exact ⟨_, _, rfl, HQ.out⟩
section
variable {B : Nat} {w : World} {q c : Nat} {Q : Qs}
set_option maxRecDepth 100000 in
set_option maxHeartbeats 1000000 in
theorem closedS_any (h : QatS B w q c Q) :
    Calls Try.prog 51 #[.pointer (some ⟨q, 0, none⟩)] w fun e w' => e = .returned (.bool Q.cl) ∧ w = w' := by
  have c0 := h.c0
  have c1 := h.c1
  have qc := fun w => run_eql_chan_nil (P := Try.prog) w 94 (some c) Try.underlying94
  clear h
  go_enter Try.func51, Try.ntmps51
  go_wp2_with fail
  go_ret
  exact ⟨rfl, rfl⟩
set_option maxRecDepth 100000 in
set_option maxHeartbeats 1000000 in
theorem lenS_any (h : QatS B w q c Q) :
    Calls Try.prog 48 #[.pointer (some ⟨q, 0, none⟩)] w fun e w' => e = .returned (.int .i64 Q.l.length) ∧ w = w' := by
  have c0 := h.c0
  obtain ⟨s, r, ps, hc, hx⟩ := h.chan
  have hlen := fun ty => run_len_chan (P := Try.prog) 94 ty Try.underlying94 hc
  rw [show (bufQ ps).size = Q.l.length by simp [bufQ, hx.1]] at hlen
  clear h hc hx
  go_enter Try.func48, Try.ntmps48
  go_wp2_with fail
  go_ret
  exact ⟨rfl, rfl⟩
set_option maxRecDepth 100000 in
set_option maxHeartbeats 1000000 in
theorem roomS_any (h : QatS B w q c Q) :
    Calls Try.prog 49 #[.pointer (some ⟨q, 0, none⟩)] w fun e w' => e = .returned (.int .i64 (roomOf Q)) ∧ Below w.heap.size w w' := by
  have c0 := h.c0
  have HC := Lib.hid (closedS_any h)
  obtain ⟨s, r, ps, hc, hx⟩ := h.chan
  have hlen := fun ty => run_len_chan (P := Try.prog) (w := w.drew) 94 ty Try.underlying94 hc
  have hcap := fun ty => run_cap_chan (P := Try.prog) (w := w.drew) 94 ty Try.underlying94 hc
  rw [show (bufQ ps).size = Q.l.length by simp [bufQ, hx.1]] at hlen
  have hr := h.room
  have hm := h.most.2
  obtain ⟨Qc, Ql, Qb⟩ := Q
  simp only at hr hm hlen hcap HC
  clear h hc hx
  cases Qb with
  | true =>
    go_enter Try.func49, Try.ntmps49
    go_wp2_with fail
    refine HC.out.mono ?_
    rintro e w1 ⟨rfl, rfl⟩
    go_wp2_with fail
    go_ret
    exact ⟨rfl, Below.refl _ _⟩
  | false =>
    go_enter Try.func49, Try.ntmps49
    go_wp2_with fail
    refine HC.out.mono ?_
    rintro e w1 ⟨rfl, rfl⟩
    go_wp2_with fail
    go_region
    go_wp2_with fail
    go_ret
    exact ⟨by simp [roomOf], Below.drew (Below.refl _ _)⟩
end
end Go.Proofs.Ythimgldohhaimaa
