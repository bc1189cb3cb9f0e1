/-
  QueueDoes: do both tell the same (alike)?; the document's own New.
-/
import Derived.Test.YthimgldohhaimaaQv5
namespace Go.Proofs.Ythimgldohhaimaa
open Go.RowKit Go.Conc

/-- While alike asks. -/
structure AS (B : Nat) (w0 w : World) (i : Ids) (X : List Int) (cx : Bool) (Y : List Int) (cy : Bool) (A : Option Addr) (N c : Nat) : Prop where
  ds : DS B w i (SS X cx Y cy)
  box : w.heap[i.x]? = some (.cells #[.slice A N c, .int .i64 i.n, .bool cx] 88 (0, 0))
  below : Below w0.heap.size w0 w
section
variable {B : Nat} {w w0 : World} {i : Ids} {X Y : List Int} {cx cy : Bool} {A : Option Addr} {N c : Nat}
theorem AS.kept {w' : World} (h : AS B w0 w i X cx Y cy A N c) (hb : Below w.heap.size w w') : AS B w0 w' i X cx Y cy A N c := ⟨h.ds.kept hb, (hb.block i.x (block_ltQ h.box)).trans h.box, bt h.below hb⟩
theorem AS.c0 (h : AS B w0 w i X cx Y cy A N c) : w.cell? ⟨i.x, 0, none⟩ = some (.slice A N c) := by simp [World.cell?, h.box]
theorem AS.c2 (h : AS B w0 w i X cx Y cy A N c) : w.cell? ⟨i.x, 2, none⟩ = some (.bool cx) := by simp [World.cell?, h.box]
theorem as_len (h : Hid (AS B w0 w i X cx Y cy A N c)) (hN : Hid (N = X.length)) :
    Calls Try.prog 21 #[.pointer (some ⟨i.q, 0, none⟩)] w fun e w' => e = .returned (.int .i64 N) ∧ Hid (AS B w0 w' i X cx Y cy A N c) ∧ (w'.cell? ⟨i.x, 0, none⟩ = some (.slice A N c) ∧ w'.cell? ⟨i.x, 2, none⟩ = some (.bool cx)) := by
  refine (ds_len h.out.ds).mono ?_
  rintro e w' ⟨rfl, rfl⟩
  exact ⟨by rw [hN.out]; rfl, h, h.out.c0, h.out.c2⟩
theorem as_room (h : Hid (AS B w0 w i X cx Y cy A N c)) :
    Calls Try.prog 26 #[.pointer (some ⟨i.q, 0, none⟩)] w fun e w' => e = .returned (.int .i64 (roomZ cx i.n X)) ∧ Hid (AS B w0 w' i X cx Y cy A N c) ∧ (w'.cell? ⟨i.x, 0, none⟩ = some (.slice A N c) ∧ w'.cell? ⟨i.x, 2, none⟩ = some (.bool cx)) := by
  refine (ds_room h.out.ds).mono ?_
  rintro e w' ⟨rfl, hb⟩
  have h2 := h.out.kept hb
  exact ⟨rfl, Lib.hid h2, h2.c0, h2.c2⟩
theorem as_rroom (h : Hid (AS B w0 w i X cx Y cy A N c)) :
    Calls Try.prog 55 #[.pointer (some ⟨i.x, 0, none⟩)] w fun e w' => e = .returned (.int .i64 (roomZ cx i.n X)) ∧ Hid (AS B w0 w' i X cx Y cy A N c) ∧ (w'.cell? ⟨i.x, 0, none⟩ = some (.slice A N c) ∧ w'.cell? ⟨i.x, 2, none⟩ = some (.bool cx)) := by
  refine (ds_rroom h.out.ds).mono ?_
  rintro e w' ⟨rfl, hb⟩
  have h2 := h.out.kept hb
  exact ⟨rfl, Lib.hid h2, h2.c0, h2.c2⟩
theorem as_closed (h : Hid (AS B w0 w i X cx Y cy A N c)) :
    Calls Try.prog 28 #[.pointer (some ⟨i.q, 0, none⟩)] w fun e w' => e = .returned (.bool cx) ∧ Hid (AS B w0 w' i X cx Y cy A N c) ∧ (w'.cell? ⟨i.x, 0, none⟩ = some (.slice A N c) ∧ w'.cell? ⟨i.x, 2, none⟩ = some (.bool cx)) := by
  refine (ds_closed h.out.ds).mono ?_
  rintro e w' ⟨rfl, rfl⟩
  exact ⟨rfl, h, h.out.c0, h.out.c2⟩
set_option maxRecDepth 100000 in
set_option maxHeartbeats 4000000 in
theorem alike_any (h : DS B w i (SS X cx Y cy)) :
    Calls Try.prog 16 #[.pointer (some ⟨i.q, 0, none⟩), .pointer (some ⟨i.x, 0, none⟩)] w fun e w' => e = .returned (.bool true) ∧ Below w.heap.size w w' := by
  obtain ⟨vx, vy, hsv⟩ := h
  obtain ⟨A, c, rfl⟩ := hsv.ra.slice
  obtain ⟨N, hN⟩ : ∃ N, N = X.length := ⟨_, rfl⟩
  have hbx := hsv.ra.box
  simp only [SS] at hbx
  rw [← hN] at hbx
  have HN := Lib.hid hN
  have hNl : N ≤ 1024 := by have := hsv.ra.room; simp only [SS] at this; omega
  have HA := Lib.hid (show AS B w w.drew i X cx Y cy A N c from (AS.mk (w0 := w) ⟨_, vy, hsv⟩ hbx (Below.refl _ _)).kept (Below.drew (Below.refl _ _)))
  clear hsv hbx hN
  go_enter Try.func16, Try.ntmps16
  go_wp2_with fail
  have x1 := And.intro HA.out.c0 HA.out.c2
  go_region_held3 (fun w' => w'.cell? ⟨i.x, 0, none⟩ = some (.slice A N c) ∧ w'.cell? ⟨i.x, 2, none⟩ = some (.bool cx))
    (first
      | exact x1
      | exact x2
      | exact x3
      | exact x4
      | exact x5)
    (first
      | (go_at_call 21; refine (as_len (by assumption) HN).mono ?_; rintro e w1 ⟨rfl, hp1, x2⟩)
      | (go_at_call 26; refine (as_room (by assumption)).mono ?_; rintro e w2 ⟨rfl, hp2, x3⟩)
      | (go_at_call 55; refine (as_rroom (by assumption)).mono ?_; rintro e w3 ⟨rfl, hp3, x4⟩)
      | (go_at_call 28; refine (as_closed (by assumption)).mono ?_; rintro e w4 ⟨rfl, hp4, x5⟩))
  go_wp2_with fail
  go_ret
  exact ⟨rfl, hp4.out.below⟩
end
/-- The document's own New. -/
def NewREnd (w : World) (n : Int) (e : Ending) (w' : World) : Prop :=
  Below w.heap.size w w' ∧ if 1 ≤ n ∧ n ≤ 1024 then ∃ x, e = .returned (.pointer (some ⟨x, 0, none⟩)) ∧ RefAt w.heap.size w' x (.slice none 0 0) n.toNat [] false
    else e = .returned (.pointer none)
set_option maxRecDepth 100000 in
set_option maxHeartbeats 1000000 in
theorem newR_any (n : Int) (w : World) :
    Calls Try.prog 13 #[.int .i64 n] w (NewREnd w n) := by
  by_cases h0 : n < 1
  · have HN := Lib.hid (show ¬ (1 ≤ n ∧ n ≤ 1024) by omega)
    go_enter Try.func13, Try.ntmps13
    go_wp2_with fail
    go_ret
    refine ⟨Below.refl _ _, ?_⟩
    rw [if_neg HN.out]
    rfl
  · by_cases h1 : 1024 < n
    · have HN := Lib.hid (show ¬ (1 ≤ n ∧ n ≤ 1024) by omega)
      go_enter Try.func13, Try.ntmps13
      go_wp2_with fail
      go_ret
      refine ⟨Below.refl _ _, ?_⟩
      rw [if_neg HN.out]
      rfl
    · have HN := Lib.hid (show 1 ≤ n ∧ n ≤ 1024 by omega)
      go_enter Try.func13, Try.ntmps13
      go_wp2_with fail
      go_ret
      refine ⟨ba w _, ?_⟩
      rw [if_pos HN.out]
      refine ⟨_, rfl, ⟨?_, World.ownsRow_nil _ _ _ _, Nat.le_refl _, ⟨Nat.zero_le _, by have := HN.out; omega⟩⟩⟩
      have := (MapKept.heap_alloc w (.cells #[.slice none 0 0, .int .i64 n, .bool false] 88)).1
      rw [Int.toNat_of_nonneg (by have := HN.out; omega)]
      exact this
end Go.Proofs.Ythimgldohhaimaa
