/-
  QueueDoes: one call of both (do).
-/
import Derived.Test.YthimgldohhaimaaQv4
import Derived.Deep.RegionHeld3
import Derived.Deep.CutRange
namespace Go.Proofs.Ythimgldohhaimaa
open Go.RowKit Go.Conc

/-- Both sides hold the same. -/
def SS (X : List Int) (cx : Bool) (Y : List Int) (cy : Bool) : St := ⟨X, cx, X, cx, Y, cy, Y, cy⟩
def OpAt (w : World) (b : Nat) (k z : Int) : Prop := w.heap[b]? = some (.cells #[.int .i64 k, .int .i64 z] 31 (0, 0))
theorem OpAt.turn {B : Nat} {w w' : World} {b : Nat} {k z : Int} (h : OpAt w b k z) (hq : Qg B w w') : OpAt w' b k z := hq.typ _ _ h (by simp [outF])
theorem OpAt.c0 {w : World} {b : Nat} {k z : Int} (h : OpAt w b k z) : w.cell? ⟨b, 0, none⟩ = some (.int .i64 k) := by unfold OpAt at h; simp [World.cell?, h]
theorem OpAt.c1 {w : World} {b : Nat} {k z : Int} (h : OpAt w b k z) : w.cell? ⟨b, 1, none⟩ = some (.int .i64 z) := by unfold OpAt at h; simp [World.cell?, h]
/-- Before, between and behind two calls. -/
structure PS (B : Nat) (w0 w : World) (i : Ids) (b : Nat) (k z : Int) (s : St) : Prop where
  ds : DS B w i s
  op : OpAt w b k z
  qg : Qg B w0 w
section
variable {B b : Nat} {w w0 : World} {i : Ids} {k z : Int} {xq xr yq yr : List Int} {cq cr dq dr : Bool}
theorem p_put (h : Hid (PS B w0 w i b k z ⟨xq, cq, xr, cr, yq, dq, yr, dr⟩)) :
    Calls Try.prog 17 #[.pointer (some ⟨i.q, 0, none⟩), .int .i64 z] w fun e w' => e = .returned (.bool (canPut cq i.n xq)) ∧ Hid (PS B w0 w' i b k z ⟨if canPut cq i.n xq then xq ++ [z] else xq, cq, xr, cr, yq, dq, yr, dr⟩) ∧ w'.cell? ⟨b, 1, none⟩ = some (.int .i64 z) := by
  refine (ds_put h.out.ds z).mono ?_
  rintro e w' ⟨rfl, hs, hq⟩
  have ho := h.out.op.turn hq
  exact ⟨rfl, Lib.hid ⟨hs, ho, h.out.qg.trans hq⟩, ho.c1⟩
theorem p_rput (h : Hid (PS B w0 w i b k z ⟨xq, cq, xr, cr, yq, dq, yr, dr⟩)) :
    Calls Try.prog 52 #[.pointer (some ⟨i.x, 0, none⟩), .int .i64 z] w fun e w' => e = .returned (.bool (canPut cr i.n xr)) ∧ Hid (PS B w0 w' i b k z ⟨xq, cq, if canPut cr i.n xr then xr ++ [z] else xr, cr, yq, dq, yr, dr⟩) ∧ w'.cell? ⟨b, 1, none⟩ = some (.int .i64 z) := by
  refine (ds_rput h.out.ds z).mono ?_
  rintro e w' ⟨rfl, hs, hq⟩
  have ho := h.out.op.turn hq
  exact ⟨rfl, Lib.hid ⟨hs, ho, h.out.qg.trans hq⟩, ho.c1⟩
theorem p_move (h : Hid (PS B w0 w i b k z ⟨xq, cq, xr, cr, yq, dq, yr, dr⟩)) :
    Calls Try.prog 29 #[.pointer (some ⟨i.q, 0, none⟩), .pointer (some ⟨i.p, 0, none⟩), .int .i64 z] w fun e w' => e = .returned (.int .i64 (moveN xq yq i.m dq z)) ∧ Hid (PS B w0 w' i b k z ⟨xq.drop (moveN xq yq i.m dq z), cq, xr, cr, yq ++ xq.take (moveN xq yq i.m dq z), dq, yr, dr⟩) ∧ w'.cell? ⟨b, 1, none⟩ = some (.int .i64 z) := by
  refine (ds_move h.out.ds z).mono ?_
  rintro e w' ⟨rfl, hs, hq⟩
  have ho := h.out.op.turn hq
  exact ⟨rfl, Lib.hid ⟨hs, ho, h.out.qg.trans hq⟩, ho.c1⟩
theorem p_rmove (h : Hid (PS B w0 w i b k z ⟨xq, cq, xr, cr, yq, dq, yr, dr⟩)) :
    Calls Try.prog 54 #[.pointer (some ⟨i.x, 0, none⟩), .pointer (some ⟨i.y, 0, none⟩), .int .i64 z] w fun e w' => e = .returned (.int .i64 (moveN xr yr i.m dr z)) ∧ Hid (PS B w0 w' i b k z ⟨xq, cq, xr.drop (moveN xr yr i.m dr z), cr, yq, dq, yr ++ xr.take (moveN xr yr i.m dr z), dr⟩) ∧ w'.cell? ⟨b, 1, none⟩ = some (.int .i64 z) := by
  refine (ds_rmove h.out.ds z).mono ?_
  rintro e w' ⟨rfl, hs, hq⟩
  have ho := h.out.op.turn hq
  exact ⟨rfl, Lib.hid ⟨hs, ho, h.out.qg.trans hq⟩, ho.c1⟩
end
/-- The document's own first queue has been closed. -/
theorem ref_shut {B : Nat} {w : World} {i : Ids} {s : St} {vx vy : Value} (h : DSv B w i s vx vy) : DSv B (w.setCell ⟨i.x, 2, none⟩ (.bool true)) i { s with cr := true } vx vy ∧ Qg B w (w.setCell ⟨i.x, 2, none⟩ (.bool true)) := by
  have hset : ∀ k, k ≠ i.x → (w.setCell ⟨i.x, 2, none⟩ (.bool true)).heap[k]? = w.heap[k]? := fun k hk => by simp [World.setCell, Array.getElem?_modify, Ne.symm hk]
  have hb := h.ra.box
  refine h.rstep (X := s.xr) (cl := true) ⟨?_, own_same h.ra.own fun k hk => hset k (h.ra.own_ne h.ra.own hk), h.ra.lo, h.ra.room⟩ ((Below.refl B w).setCell h.ra.lo _) (fun k _ hk _ => hset k hk) (fun k hk => .inl hk)
  simp only [World.setCell, Array.getElem?_modify, hb]
  rfl
theorem ref_clear {B : Nat} {w : World} {i : Ids} {s : St} {vx vy : Value} (h : DSv B w i s vx vy) : DSv B (w.setCell ⟨i.x, 0, none⟩ (.slice none 0 0)) i { s with xr := [] } (.slice none 0 0) vy ∧ Qg B w (w.setCell ⟨i.x, 0, none⟩ (.slice none 0 0)) := by
  have hset : ∀ k, k ≠ i.x → (w.setCell ⟨i.x, 0, none⟩ (.slice none 0 0)).heap[k]? = w.heap[k]? := fun k hk => by simp [World.setCell, Array.getElem?_modify, Ne.symm hk]
  have hb := h.ra.box
  have hr := h.ra.room
  refine h.rstep (X := []) (cl := s.cr) ⟨?_, World.ownsRow_nil _ _ _ _, h.ra.lo, ⟨Nat.zero_le _, hr.2⟩⟩ ((Below.refl B w).setCell h.ra.lo _) (fun k _ hk _ => hset k hk) (fun k hk => by cases hk)
  simp only [World.setCell, Array.getElem?_modify, hb]
  rfl
/-- What do leaves. -/
def DoEnd (B : Nat) (w : World) (i : Ids) (e : Ending) (w' : World) : Prop := e = .returned (.bool true) ∧ (∃ X cx Y cy, DS B w' i (SS X cx Y cy)) ∧ Qg B w w'
section
variable {B : Nat} {w : World} {i : Ids} {X Y : List Int} {cx cy : Bool}
theorem ps_start (h : DS B w i (SS X cx Y cy)) (k z : Int) : PS B w (w.alloc (.cells #[.int .i64 k, .int .i64 z] 31)) i w.heap.size k z (SS X cx Y cy) :=
  ⟨h.kept (ba w _), (MapKept.heap_alloc w _).1, Qg.of_below h.lt (ba w _)⟩
set_option maxRecDepth 100000 in
set_option maxHeartbeats 4000000 in
theorem do_1 (h : DS B w i (SS X cx Y cy)) (z : Int) :
    Calls Try.prog 15 #[.pointer (some ⟨i.q, 0, none⟩), .pointer (some ⟨i.p, 0, none⟩), .pointer (some ⟨i.x, 0, none⟩), .pointer (some ⟨i.y, 0, none⟩), .agg #[.int .i64 1, .int .i64 z]] w (DoEnd B w i) := by
  have HP := Lib.hid (ps_start h 1 z)
  unfold SS at HP
  obtain ⟨b, hb⟩ : ∃ b, b = w.heap.size := ⟨_, rfl⟩
  rw [← hb] at HP
  have HBb := Lib.hid hb
  clear h
  go_enter Try.func15, Try.ntmps15
  go_upto_region 1 with fail
  rw [← HBb.out]
  clear hb
  generalize w.alloc (.cells #[.int .i64 1, .int .i64 z] 31) = W at HP ⊢
  have x0 := HP.out.op.c0
  go_upto_region 3 with fail
  clear x0
  have HPd := Lib.hid (show PS B w W.drew i b 1 z _ from ⟨HP.out.ds.kept (Below.drew (Below.refl _ _)), HP.out.op, HP.out.qg.trans (Qg.of_below HP.out.ds.lt (Below.drew (Below.refl _ _)))⟩)
  clear HP
  have x1 : W.drew.cell? ⟨b, 1, none⟩ = some (.int .i64 z) := HPd.out.op.c1
  go_region_held3 (fun w' => w'.cell? ⟨b, 1, none⟩ = some (.int .i64 z))
    (first
      | exact x1
      | exact x2
      | exact x3)
    (first
      | (go_at_call 17; refine (p_put (by assumption)).mono ?_; rintro e w1 ⟨rfl, hp1, x2⟩)
      | (go_at_call 52; refine (p_rput (by assumption)).mono ?_; rintro e w2 ⟨rfl, hp2, x3⟩))
  go_wp2_with fail
  go_ret
  exact ⟨rfl, ⟨_, _, _, _, hp2.out.ds⟩, hp2.out.qg⟩
set_option maxRecDepth 100000 in
set_option maxHeartbeats 4000000 in
theorem do_5 (h : DS B w i (SS X cx Y cy)) (z : Int) :
    Calls Try.prog 15 #[.pointer (some ⟨i.q, 0, none⟩), .pointer (some ⟨i.p, 0, none⟩), .pointer (some ⟨i.x, 0, none⟩), .pointer (some ⟨i.y, 0, none⟩), .agg #[.int .i64 5, .int .i64 z]] w (DoEnd B w i) := by
  have HP := Lib.hid (ps_start h 5 z)
  unfold SS at HP
  obtain ⟨b, hb⟩ : ∃ b, b = w.heap.size := ⟨_, rfl⟩
  rw [← hb] at HP
  have HBb := Lib.hid hb
  clear h
  go_enter Try.func15, Try.ntmps15
  go_upto_region 1 with fail
  rw [← HBb.out]
  clear hb
  generalize w.alloc (.cells #[.int .i64 5, .int .i64 z] 31) = W at HP ⊢
  have x0 := HP.out.op.c0
  go_upto_region 17 with fail
  clear x0
  have HPd := Lib.hid (show PS B w W.drew i b 5 z _ from ⟨HP.out.ds.kept (Below.drew (Below.refl _ _)), HP.out.op, HP.out.qg.trans (Qg.of_below HP.out.ds.lt (Below.drew (Below.refl _ _)))⟩)
  clear HP
  have x1 : W.drew.cell? ⟨b, 1, none⟩ = some (.int .i64 z) := HPd.out.op.c1
  go_region_held3 (fun w' => w'.cell? ⟨b, 1, none⟩ = some (.int .i64 z))
    (first
      | exact x1
      | exact x2
      | exact x3)
    (first
      | (go_at_call 29; refine (p_move (by assumption)).mono ?_; rintro e w1 ⟨rfl, hp1, x2⟩)
      | (go_at_call 54; refine (p_rmove (by assumption)).mono ?_; rintro e w2 ⟨rfl, hp2, x3⟩))
  go_wp2_with fail
  go_ret
  exact ⟨rfl, ⟨_, _, _, _, hp2.out.ds⟩, hp2.out.qg⟩
set_option maxRecDepth 100000 in
set_option maxHeartbeats 4000000 in
theorem do_2 (h : DS B w i (SS X cx Y cy)) (z : Int) :
    Calls Try.prog 15 #[.pointer (some ⟨i.q, 0, none⟩), .pointer (some ⟨i.p, 0, none⟩), .pointer (some ⟨i.x, 0, none⟩), .pointer (some ⟨i.y, 0, none⟩), .agg #[.int .i64 2, .int .i64 z]] w (DoEnd B w i) := by
  have HP := Lib.hid (ps_start h 2 z)
  unfold SS at HP
  obtain ⟨b, hb⟩ : ∃ b, b = w.heap.size := ⟨_, rfl⟩
  rw [← hb] at HP
  have HBb := Lib.hid hb
  clear h
  go_enter Try.func15, Try.ntmps15
  go_upto_region 1 with fail
  rw [← HBb.out]
  clear hb
  generalize w.alloc (.cells #[.int .i64 2, .int .i64 z] 31) = W at HP ⊢
  have x0 := HP.out.op.c0
  go_wp2_with fail
  refine (ds_take HP.out.ds).mono ?_
  rintro e w2 ⟨rfl, hs2, hq2⟩
  simp only at hs2 ⊢
  have HS2 := Lib.hid hs2
  have HQ2 := Lib.hid (HP.out.qg.trans hq2)
  clear hs2 hq2 HP x0
  go_wp2_with fail
  refine (ds_rtake HS2.out).mono ?_
  rintro e w3 ⟨rfl, hs3, hq3⟩
  simp only at hs3 ⊢
  have HS3 := Lib.hid hs3
  have HQ3 := Lib.hid (HQ2.out.trans hq3)
  clear hs3 hq3 HS2 HQ2
  go_wp2_with fail
  go_ret
  exact ⟨rfl, ⟨_, _, _, _, HS3.out⟩, HQ3.out⟩
set_option maxRecDepth 100000 in
set_option maxHeartbeats 4000000 in
theorem do_3 (h : DS B w i (SS X cx Y cy)) (z : Int) :
    Calls Try.prog 15 #[.pointer (some ⟨i.q, 0, none⟩), .pointer (some ⟨i.p, 0, none⟩), .pointer (some ⟨i.x, 0, none⟩), .pointer (some ⟨i.y, 0, none⟩), .agg #[.int .i64 3, .int .i64 z]] w (DoEnd B w i) := by
  have HP := Lib.hid (ps_start h 3 z)
  unfold SS at HP
  obtain ⟨b, hb⟩ : ∃ b, b = w.heap.size := ⟨_, rfl⟩
  rw [← hb] at HP
  have HBb := Lib.hid hb
  clear h
  go_enter Try.func15, Try.ntmps15
  go_upto_region 1 with fail
  rw [← HBb.out]
  clear hb
  generalize w.alloc (.cells #[.int .i64 3, .int .i64 z] 31) = W at HP ⊢
  have x0 := HP.out.op.c0
  obtain ⟨vx, vy, hsv⟩ := HP.out.ds
  have y2 := hsv.ra.c2
  have yf := hsv.ra.fz 2
  have HS1 := Lib.hid (ref_shut hsv)
  simp only at y2 yf
  clear hsv
  go_wp2_with fail
  have HQ1 := Lib.hid (HP.out.qg.trans HS1.out.2)
  have HT1 := Lib.hid HS1.out.1
  clear HP HS1 x0 y2 yf
  refine (ds_close (show DS B (W.setCell ⟨i.x, 2, none⟩ (.bool true)) i ⟨X, cx, X, true, Y, cy, Y, cy⟩ from ⟨vx, vy, HT1.out⟩)).mono ?_
  rintro e w3 ⟨rfl, hs3, hq3⟩
  simp only at hs3 ⊢
  have HS3 := Lib.hid hs3
  have HQ3 := Lib.hid (HQ1.out.trans hq3)
  clear hs3 hq3
  go_wp2_with fail
  go_ret
  exact ⟨rfl, ⟨_, _, _, _, HS3.out⟩, HQ3.out⟩
set_option maxRecDepth 100000 in
set_option maxHeartbeats 4000000 in
theorem do_4 (h : DS B w i (SS X cx Y cy)) (z : Int) :
    Calls Try.prog 15 #[.pointer (some ⟨i.q, 0, none⟩), .pointer (some ⟨i.p, 0, none⟩), .pointer (some ⟨i.x, 0, none⟩), .pointer (some ⟨i.y, 0, none⟩), .agg #[.int .i64 4, .int .i64 z]] w (DoEnd B w i) := by
  have HP := Lib.hid (ps_start h 4 z)
  unfold SS at HP
  obtain ⟨b, hb⟩ : ∃ b, b = w.heap.size := ⟨_, rfl⟩
  rw [← hb] at HP
  have HBb := Lib.hid hb
  clear h
  go_enter Try.func15, Try.ntmps15
  go_upto_region 1 with fail
  rw [← HBb.out]
  clear hb
  generalize w.alloc (.cells #[.int .i64 4, .int .i64 z] 31) = W at HP ⊢
  have x0 := HP.out.op.c0
  obtain ⟨vx, vy, hsv⟩ := HP.out.ds
  obtain ⟨A, c, rfl⟩ := hsv.ra.slice
  have y0 := hsv.ra.c0
  have yf := hsv.ra.fz 0
  have HS1 := Lib.hid (ref_clear hsv)
  have HO1 := Lib.hid (show (W.setCell ⟨i.x, 0, none⟩ (.slice none 0 0)).ownsRow B 3 1 (.slice A X.length c) X.length (X.map (Value.int .i64)) from own_same hsv.ra.own fun k hk => by
    have := hsv.ra.own_ne hsv.ra.own hk
    simp [World.setCell, Array.getElem?_modify, Ne.symm this])
  have hcap := hsv.ra.room
  simp only at y0 yf hcap
  obtain ⟨N, hN⟩ : ∃ N, N = X.length := ⟨_, rfl⟩
  rw [← hN] at y0 HO1 hcap
  have HN := Lib.hid hN
  have hNl : N ≤ 1024 := by omega
  clear hsv hN hcap
  go_wp2_with fail
  have HQ1 := Lib.hid (HP.out.qg.trans HS1.out.2)
  have HT1 := Lib.hid HS1.out.1
  clear HP HS1 x0 y0 yf
  refine (ds_all (show DS B (W.setCell ⟨i.x, 0, none⟩ (.slice none 0 0)) i ⟨X, cx, [], cx, Y, cy, Y, cy⟩ from ⟨_, vy, HT1.out⟩)).mono ?_
  rintro e w3 ⟨⟨A2, c2, rfl, hi2⟩, hs3, hq3, hk3⟩
  simp only at hs3 hi2 ⊢
  have hown3 : w3.ownsRow B 3 1 (.slice A N c) N (X.map (Value.int .i64)) := own_same HO1.out fun k hk => by
    obtain ⟨cs, fr, h1⟩ := own_ty HO1.out hk
    rw [h1]; exact hk3 k cs fr h1
  have hA : IntsQ w3 A X := by
    obtain ⟨A', c', he, hi⟩ := ints_ofQ hown3
    simp only [Value.slice.injEq] at he
    rw [he.1]; exact hi
  have HS3 := Lib.hid hs3
  have HQ3 := Lib.hid (HQ1.out.trans hq3)
  have HI2 := Lib.hid hi2
  have HA := Lib.hid hA
  clear hs3 hq3 hi2 hA hk3 hown3 HO1
  rw [← HN.out]
  go_wp2_with fail
  refine (same7_any A2 A N _ _ X w3 HN.out.symm HI2.out HA.out (by omega)).mono ?_
  rintro e w4 ⟨rfl, hb4⟩
  have HS4 := Lib.hid (HS3.out.kept hb4)
  have HQ4 := Lib.hid (HQ3.out.trans (Qg.of_below HS3.out.lt hb4))
  clear hb4
  go_wp2_with fail
  go_ret
  exact ⟨rfl, ⟨_, _, _, _, HS4.out⟩, HQ4.out⟩
set_option maxRecDepth 100000 in
set_option maxHeartbeats 4000000 in
theorem do_0 (h : DS B w i (SS X cx Y cy)) (k z : Int) (h1 : k ≠ 1) (h2 : k ≠ 2) (h3 : k ≠ 3) (h4 : k ≠ 4) (h5 : k ≠ 5) :
    Calls Try.prog 15 #[.pointer (some ⟨i.q, 0, none⟩), .pointer (some ⟨i.p, 0, none⟩), .pointer (some ⟨i.x, 0, none⟩), .pointer (some ⟨i.y, 0, none⟩), .agg #[.int .i64 k, .int .i64 z]] w (DoEnd B w i) := by
  have HP := Lib.hid (ps_start h k z)
  unfold SS at HP
  obtain ⟨b, hb⟩ : ∃ b, b = w.heap.size := ⟨_, rfl⟩
  rw [← hb] at HP
  have HBb := Lib.hid hb
  clear h
  go_enter Try.func15, Try.ntmps15
  go_upto_region 1 with fail
  rw [← HBb.out]
  clear hb
  generalize w.alloc (.cells #[.int .i64 k, .int .i64 z] 31) = W at HP ⊢
  have x0 := HP.out.op.c0
  go_wp2_with fail
  go_ret
  exact ⟨rfl, ⟨_, _, _, _, HP.out.ds⟩, HP.out.qg⟩
theorem do_any (h : DS B w i (SS X cx Y cy)) (k z : Int) :
    Calls Try.prog 15 #[.pointer (some ⟨i.q, 0, none⟩), .pointer (some ⟨i.p, 0, none⟩), .pointer (some ⟨i.x, 0, none⟩), .pointer (some ⟨i.y, 0, none⟩), .agg #[.int .i64 k, .int .i64 z]] w (DoEnd B w i) := by
  by_cases h1 : k = 1
  · subst h1; exact do_1 h z
  by_cases h2 : k = 2
  · subst h2; exact do_2 h z
  by_cases h3 : k = 3
  · subst h3; exact do_3 h z
  by_cases h4 : k = 4
  · subst h4; exact do_4 h z
  by_cases h5 : k = 5
  · subst h5; exact do_5 h z
  exact do_0 h k z h1 h2 h3 h4 h5
end
end Go.Proofs.Ythimgldohhaimaa
