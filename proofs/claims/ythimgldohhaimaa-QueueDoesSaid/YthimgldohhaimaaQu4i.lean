/-
  Package queue, of one type: Put and Take of a queue in memory: a select of one case, and a default.
-/
import Derived.Test.YthimgldohhaimaaQu3i
namespace Go.Proofs.Ythimgldohhaimaa
open Go.RowKit Go.Conc

def dI : Int := 0 -- nought
def hdI (xs : List Int) : Int := xs.headD (dI)
theorem resI_send (a : Nat) (u z : Value) : commResult #[scase a u z] .select ((0 : Nat) : Int) undef false = .tuple #[goInt 0, .bool false] := by
  simp [commResult, scase, List.zipIdx_cons]
theorem resI_send_no (a : Nat) (u z : Value) : commResult #[scase a u z] .select (-1) undef false = .tuple #[goInt (-1), .bool false] := by
  simp [commResult, scase, List.zipIdx_cons]
theorem resI_recv (a : Nat) (z v : Value) (ok : Bool) : commResult #[rcase a z] .select ((0 : Nat) : Int) v ok = .tuple #[goInt 0, .bool ok, v] := by
  simp [commResult, rcase, List.zipIdx_cons]
theorem resI_recv_no (a : Nat) (z : Value) : commResult #[rcase a z] .select (-1) undef false = .tuple #[goInt (-1), .bool false, z] := by
  simp [commResult, rcase, List.zipIdx_cons]
section
variable {B : Nat} {w : World} {q c cap : Nat} {l : List Value}
set_option maxRecDepth 100000 in
set_option maxHeartbeats 4000000 in
theorem putI_room (x : Int) (h : QatI B w q c ⟨cap, l, false⟩) (hr : l.length < cap) :
    Calls Try.prog 17 #[.pointer (some ⟨q, 0, none⟩), .int .i64 x] w fun e w' => e = .returned (.bool true) ∧ QatI B w' q c ⟨cap, l ++ [.int .i64 x], false⟩ ∧ Only q c w w' ∧ ∀ k, k < w.heap.size → Away w c k → Away w' c k := by
  refine calls_of_loneTo fun cs => ?_
  have hb := ba w (.cells #[.int .i64 x] 3)
  have h1 := h.kept hb
  have hp := (MapKept.heap_alloc w (.cells #[.int .i64 x] 3)).1
  obtain ⟨s, r, ps, hc, hx⟩ := h1.chan
  have hfin := And.intro (h.push hb hp hr hx.1 hx rfl (s := s + 1) (r := r)) (fun (k : Nat) (hk : k < w.heap.size) (ha : Away w c k) => (ha.same (hb.block c (by obtain ⟨_, _, _, hc0, _⟩ := h.chan; exact block_ltQ hc0))).push hc (cl' := false) (s' := s + 1) (r' := r) (p := w.heap.size) (by omega))
  have HF := Lib.hid hfin
  have c0 := h1.c0
  have HC := Lib.hid (closedI_any h1)
  have HL := Lib.hid hx.1
  clear hfin h1 h hx hb hp
  have e : Frame.enter Try.prog 17 #[.pointer (some ⟨q, 0, none⟩), .int .i64 x] .normal = (base 17).at ⟨#[.pointer (some ⟨q, 0, none⟩), .int .i64 x, undef, undef, undef, undef, undef, undef, undef, undef, undef, undef, undef, undef], []⟩ [.code (Try.f17.body.getD .skip)] := by
    simp [Frame.enter, Frame.at, Try.func17, base, Try.f17]
  rw [e]
  clear e
  refine LoneTo.goes (n := 40) ?_
  simp only [Try.f17, Option.getD_some]
  s_c stepG_seq
  s_reg
  s_op
  s_op
  s_c stepG_region_end
  s_c stepG_seq
  s_c stepG_seq
  s_reg
  s_op
  s_stop
  refine LoneTo.call rfl rfl (by decide) rfl Try.func28 (by kernel_rfl) rfl (by simp [Act.eval]) HC.out ?_
  rintro e w1 ⟨rfl, rfl⟩
  refine ⟨_, rfl, ?_⟩
  walk_nrm
  refine LoneTo.goes (n := 40) ?_
  s_c stepG_region_end
  s_cond false
  s_c stepG_skip
  s_c stepG_seq
  s_reg
  s_op
  s_op
  s_op
  s_op
  s_c stepG_region_end
  s_c stepG_seq
  s_reg
  s_stop
  refine LoneTo.step (step_lone_sel_send_room (k := 0) (c := c) (v := ptrQ w.heap.size) (z := .pointer none) (cap := cap) (buf := bufQ ps) (s := s) (r := r) (tm := false)
    (stepG_comm (cases := #[scase c (ptrQ w.heap.size) (.pointer none)]) (blocking := false) (shape := .select) (w' := w.alloc (.cells #[.int .i64 x] 3)) rfl rfl (by decide) (by simp [go_sem, execOp, scase, Act.eval, ptrQ]))
    rfl (fun m c' hm hc' => ?_) hc (by have := HL.out; simp only at this; simp [bufQ]; omega)) ?_
  · rcases m with _ | m
    · exact absurd rfl hm
    · simp at hc'
  rw [Frame.finish_at, resI_send]
  walk_nrm
  refine LoneTo.goes (n := 40) ?_
  s_op
  s_op
  s_c stepG_region_end
  s_c stepG_block
  s_cond true
  s_c stepG_seq
  s_reg
  s_op
  s_c stepG_region_end
  s_c stepG_ret'
  s_stop
  refine LoneTo.done ⟨.returned (.bool true), _, rfl, ⟨rfl, HF.out.1.1, HF.out.1.2, HF.out.2⟩, rfl, rfl, rfl, rfl, _, Try.func17, by simp [results, Try.f17, Frame.at]⟩
set_option maxRecDepth 100000 in
set_option maxHeartbeats 4000000 in
theorem putI_full (x : Int) (h : QatI B w q c ⟨cap, l, false⟩) (hr : ¬ l.length < cap) :
    Calls Try.prog 17 #[.pointer (some ⟨q, 0, none⟩), .int .i64 x] w fun e w' => e = .returned (.bool false) ∧ Below w.heap.size w w' := by
  refine calls_of_loneTo fun cs => ?_
  have hb := ba w (.cells #[.int .i64 x] 3)
  have h1 := h.kept hb
  obtain ⟨s, r, ps, hc, hx⟩ := h1.chan
  have HB := Lib.hid hb
  have c0 := h1.c0
  have HC := Lib.hid (closedI_any h1)
  have HL := Lib.hid hx.1
  clear h1 h hx hb
  have e : Frame.enter Try.prog 17 #[.pointer (some ⟨q, 0, none⟩), .int .i64 x] .normal = (base 17).at ⟨#[.pointer (some ⟨q, 0, none⟩), .int .i64 x, undef, undef, undef, undef, undef, undef, undef, undef, undef, undef, undef, undef], []⟩ [.code (Try.f17.body.getD .skip)] := by
    simp [Frame.enter, Frame.at, Try.func17, base, Try.f17]
  rw [e]
  clear e
  refine LoneTo.goes (n := 40) ?_
  simp only [Try.f17, Option.getD_some]
  s_c stepG_seq
  s_reg
  s_op
  s_op
  s_c stepG_region_end
  s_c stepG_seq
  s_c stepG_seq
  s_reg
  s_op
  s_stop
  refine LoneTo.call rfl rfl (by decide) rfl Try.func28 (by kernel_rfl) rfl (by simp [Act.eval]) HC.out ?_
  rintro e w1 ⟨rfl, rfl⟩
  refine ⟨_, rfl, ?_⟩
  walk_nrm
  refine LoneTo.goes (n := 40) ?_
  s_c stepG_region_end
  s_cond false
  s_c stepG_skip
  s_c stepG_seq
  s_reg
  s_op
  s_op
  s_op
  s_op
  s_c stepG_region_end
  s_c stepG_seq
  s_reg
  s_stop
  refine LoneTo.step (step_lone_sel_default
    (stepG_comm (cases := #[scase c (ptrQ w.heap.size) (.pointer none)]) (blocking := false) (shape := .select) (w' := w.alloc (.cells #[.int .i64 x] 3)) rfl rfl (by decide) (by simp [go_sem, execOp, scase, Act.eval, ptrQ]))
    (fun cc hcc => ?_)) ?_
  · simp only [List.mem_toArray, List.mem_cons, List.not_mem_nil, or_false] at hcc
    subst hcc
    exact noWay_send hc (by have := HL.out; simp only at this; simp [bufQ]; omega)
  rw [Frame.finish_at, resI_send_no]
  walk_nrm
  refine LoneTo.goes (n := 40) ?_
  s_op
  s_op
  s_c stepG_region_end
  s_c stepG_block
  s_cond false
  s_c stepG_seq
  s_reg
  s_op
  s_c stepG_region_end
  s_c stepG_ret'
  s_stop
  refine LoneTo.done ⟨.returned (.bool false), _, rfl, ⟨rfl, HB.out⟩, rfl, rfl, rfl, rfl, _, Try.func17, by simp [results, Try.f17, Frame.at]⟩
/-- Put of a queue that is closed. -/
theorem putI_shut (x : Int) (h : QatI B w q c ⟨cap, l, true⟩) :
    Calls Try.prog 17 #[.pointer (some ⟨q, 0, none⟩), .int .i64 x] w fun e w' => e = .returned (.bool false) ∧ Below w.heap.size w w' := by
  have hb := ba w (.cells #[.int .i64 x] 3)
  have HB := Lib.hid hb
  have HC := Lib.hid (closedI_any (h.kept hb))
  clear h hb
  go_enter Try.func17, Try.ntmps17
  go_wp2_with fail
  refine HC.out.mono ?_
  rintro e w1 ⟨rfl, rfl⟩
  go_wp2_with fail
  go_ret
  exact ⟨rfl, HB.out⟩
set_option maxRecDepth 100000 in
set_option maxHeartbeats 4000000 in
theorem takeI_some {cl : Bool} (x : Int) (t : List Value) (h : QatI B w q c ⟨cap, .int .i64 x :: t, cl⟩) :
    Calls Try.prog 18 #[.pointer (some ⟨q, 0, none⟩)] w fun e w' => e = .returned (.tuple #[.int .i64 x, .bool true]) ∧ QatI B w' q c ⟨cap, t, cl⟩ ∧ Only q c w w' ∧ (∀ U, LowB U w c → LowB U w' c) ∧ ∀ k, Away w c k → Away w' c k := by
  refine calls_of_loneTo fun cs => ?_
  obtain ⟨s, r, ps, hc, hx⟩ := h.chan
  have hfin := And.intro (h.pop rfl hx (s := s) (r := r + 1)) (And.intro (fun (U : Nat) (hl : LowB U w c) => hl.pop hc (s' := s) (r' := r + 1)) (fun (k : Nat) (hl : Away w c k) => hl.pop hc (s' := s) (r' := r + 1)))
  have HF := Lib.hid hfin
  have c0 := h.c0
  obtain ⟨p, ps', rfl⟩ : ∃ p ps', ps = p :: ps' := by cases ps with | nil => have := hx.1; simp at this | cons p ps' => exact ⟨p, ps', rfl⟩
  have hp := hx.2 0 p (.int .i64 x) rfl rfl
  have hcp : (w.setChan c cap ((bufQ (p :: ps')).extract 1 (bufQ (p :: ps')).size) cl s (r + 1) false).cell? ⟨p, 0, none⟩ = some (.int .i64 x) := by
    have hk := (h.box_ne hp).2
    simp [World.cell?, World.setChan, Array.getElem?_setIfInBounds_ne (Ne.symm hk), hp]
  clear hfin h hx hp
  have e : Frame.enter Try.prog 18 #[.pointer (some ⟨q, 0, none⟩)] .normal = (base 18).at ⟨#[.pointer (some ⟨q, 0, none⟩), undef, undef, undef, undef, undef, undef, undef, undef, undef, undef, undef, undef, undef, undef, undef, undef, undef, undef, undef, undef, undef, undef, undef, undef, undef], []⟩ [.code (Try.f18.body.getD .skip)] := by
    simp [Frame.enter, Frame.at, Try.func18, base, Try.f18]
  rw [e]
  clear e
  refine LoneTo.goes (n := 40) ?_
  simp only [Try.f18, Option.getD_some]
  s_c stepG_seq
  s_reg
  s_op
  s_op
  s_c stepG_region_end
  s_c stepG_seq
  s_reg
  s_op
  s_c stepG_region_end
  s_c stepG_seq
  s_c stepG_seq
  s_reg
  s_op
  s_op
  s_c stepG_region_end
  s_cond false
  s_c stepG_skip
  s_c stepG_seq
  s_reg
  s_op
  s_op
  s_op
  s_op
  s_c stepG_region_end
  s_c stepG_seq
  s_reg
  s_stop
  refine LoneTo.step (step_lone_sel_recv_buf (k := 0) (c := c) (z := .pointer none) (cap := cap) (buf := bufQ (p :: ps')) (closed := cl) (s := s) (r := r) (tm := false)
    (stepG_comm (cases := #[rcase c (.pointer none)]) (blocking := false) (shape := .select) (w' := w) rfl rfl (by decide) (by simp [go_sem, execOp, rcase, Act.eval]))
    rfl (fun m c' hm hc' => ?_) hc (by simp [bufQ])) ?_
  · rcases m with _ | m
    · exact absurd rfl hm
    · simp at hc'
  rw [Frame.finish_at, resI_recv, show (bufQ (p :: ps')).getD 0 undef = .pointer (some ⟨p, 0, none⟩) by simp [bufQ, ptrQ]]
  walk_nrm
  generalize (w.setChan c cap ((bufQ (p :: ps')).extract 1 (bufQ (p :: ps')).size) cl s (r + 1) false) = W at hcp HF ⊢
  refine LoneTo.goes (n := 40) ?_
  s_op
  s_op
  s_c stepG_region_end
  s_c stepG_block
  s_cond true
  s_c stepG_seq
  s_reg
  s_op
  s_op
  s_op
  s_op
  s_c stepG_region_end
  s_c stepG_seq
  s_c stepG_seq
  s_reg
  s_op
  s_op
  s_c stepG_region_end
  s_cond false
  s_c stepG_skip
  s_c stepG_seq
  s_reg
  s_op
  s_op
  s_op
  s_op
  s_op
  s_c stepG_region_end
  s_c stepG_ret'
  s_stop
  refine LoneTo.done ⟨.returned (.tuple #[.int .i64 x, .bool true]), _, rfl, ⟨rfl, HF.out.1.1, HF.out.1.2, HF.out.2⟩, rfl, rfl, rfl, rfl, _, Try.func18, by simp [results, Try.f18, Frame.at]⟩
set_option maxRecDepth 100000 in
set_option maxHeartbeats 4000000 in
theorem takeI_none (h : QatI B w q c ⟨cap, [], false⟩) :
    Calls Try.prog 18 #[.pointer (some ⟨q, 0, none⟩)] w fun e w' => e = .returned (.tuple #[zI, .bool false]) ∧ w = w' := by
  refine calls_of_loneTo fun cs => ?_
  obtain ⟨s, r, ps, hc, hx⟩ := h.chan
  have c0 := h.c0
  obtain rfl : ps = [] := List.eq_nil_of_length_eq_zero hx.1
  clear h hx
  have e : Frame.enter Try.prog 18 #[.pointer (some ⟨q, 0, none⟩)] .normal = (base 18).at ⟨#[.pointer (some ⟨q, 0, none⟩), undef, undef, undef, undef, undef, undef, undef, undef, undef, undef, undef, undef, undef, undef, undef, undef, undef, undef, undef, undef, undef, undef, undef, undef, undef], []⟩ [.code (Try.f18.body.getD .skip)] := by
    simp [Frame.enter, Frame.at, Try.func18, base, Try.f18]
  rw [e]
  clear e
  refine LoneTo.goes (n := 40) ?_
  simp only [Try.f18, Option.getD_some]
  s_c stepG_seq
  s_reg
  s_op
  s_op
  s_c stepG_region_end
  s_c stepG_seq
  s_reg
  s_op
  s_c stepG_region_end
  s_c stepG_seq
  s_c stepG_seq
  s_reg
  s_op
  s_op
  s_c stepG_region_end
  s_cond false
  s_c stepG_skip
  s_c stepG_seq
  s_reg
  s_op
  s_op
  s_op
  s_op
  s_c stepG_region_end
  s_c stepG_seq
  s_reg
  s_stop
  refine LoneTo.step (step_lone_sel_default
    (stepG_comm (cases := #[rcase c (.pointer none)]) (blocking := false) (shape := .select) (w' := w) rfl rfl (by decide) (by simp [go_sem, execOp, rcase, Act.eval]))
    (fun cc hcc => ?_)) ?_
  · simp only [List.mem_toArray, List.mem_cons, List.not_mem_nil, or_false] at hcc
    subst hcc
    exact noWay_recv hc
  rw [Frame.finish_at, resI_recv_no]
  walk_nrm
  refine LoneTo.goes (n := 40) ?_
  s_op
  s_op
  s_c stepG_region_end
  s_c stepG_block
  s_cond false
  s_c stepG_seq
  s_reg
  s_op
  s_op
  s_op
  s_c stepG_region_end
  s_c stepG_ret'
  s_stop
  refine LoneTo.done ⟨.returned (.tuple #[zI, .bool false]), _, rfl, ⟨rfl, rfl⟩, rfl, rfl, rfl, rfl, _, Try.func18, by simp [results, Try.f18, Frame.at, zI] <;> rfl⟩
set_option maxRecDepth 100000 in
set_option maxHeartbeats 4000000 in
theorem takeI_shut (h : QatI B w q c ⟨cap, [], true⟩) :
    Calls Try.prog 18 #[.pointer (some ⟨q, 0, none⟩)] w fun e w' => e = .returned (.tuple #[zI, .bool false]) ∧ w = w' := by
  refine calls_of_loneTo fun cs => ?_
  obtain ⟨s, r, ps, hc, hx⟩ := h.chan
  have c0 := h.c0
  obtain rfl : ps = [] := List.eq_nil_of_length_eq_zero hx.1
  clear h hx
  have e : Frame.enter Try.prog 18 #[.pointer (some ⟨q, 0, none⟩)] .normal = (base 18).at ⟨#[.pointer (some ⟨q, 0, none⟩), undef, undef, undef, undef, undef, undef, undef, undef, undef, undef, undef, undef, undef, undef, undef, undef, undef, undef, undef, undef, undef, undef, undef, undef, undef], []⟩ [.code (Try.f18.body.getD .skip)] := by
    simp [Frame.enter, Frame.at, Try.func18, base, Try.f18]
  rw [e]
  clear e
  refine LoneTo.goes (n := 40) ?_
  simp only [Try.f18, Option.getD_some]
  s_c stepG_seq
  s_reg
  s_op
  s_op
  s_c stepG_region_end
  s_c stepG_seq
  s_reg
  s_op
  s_c stepG_region_end
  s_c stepG_seq
  s_c stepG_seq
  s_reg
  s_op
  s_op
  s_c stepG_region_end
  s_cond false
  s_c stepG_skip
  s_c stepG_seq
  s_reg
  s_op
  s_op
  s_op
  s_op
  s_c stepG_region_end
  s_c stepG_seq
  s_reg
  s_stop
  refine LoneTo.step (step_lone_sel_recv_shut (k := 0) (c := c) (z := .pointer none) (cap := cap) (s := s) (r := r) (tm := false)
    (stepG_comm (cases := #[rcase c (.pointer none)]) (blocking := false) (shape := .select) (w' := w) rfl rfl (by decide) (by simp [go_sem, execOp, rcase, Act.eval]))
    rfl (fun m c' hm hc' => ?_) hc) ?_
  · rcases m with _ | m
    · exact absurd rfl hm
    · simp at hc'
  rw [Frame.finish_at, resI_recv]
  walk_nrm
  refine LoneTo.goes (n := 40) ?_
  s_op
  s_op
  s_c stepG_region_end
  s_c stepG_block
  s_cond true
  s_c stepG_seq
  s_reg
  s_op
  s_op
  s_op
  s_op
  s_c stepG_region_end
  s_c stepG_seq
  s_c stepG_seq
  s_reg
  s_op
  s_op
  s_c stepG_region_end
  s_cond true
  s_c stepG_seq
  s_reg
  s_op
  s_op
  s_op
  s_c stepG_region_end
  s_c stepG_ret'
  s_stop
  refine LoneTo.done ⟨.returned (.tuple #[zI, .bool false]), _, rfl, ⟨rfl, rfl⟩, rfl, rfl, rfl, rfl, _, Try.func18, by simp [results, Try.f18, Frame.at, zI] <;> rfl⟩
/-- Take of a queue, whatever it holds. -/
theorem takeI_any {cl : Bool} (h : QatI B w q c ⟨cap, l, cl⟩) (xs : List Int) (hl : l = xs.map (Value.int .i64)) :
    Calls Try.prog 18 #[.pointer (some ⟨q, 0, none⟩)] w fun e w' => e = .returned (.tuple #[.int .i64 (hdI xs), .bool (decide (0 < xs.length))]) ∧ QatI B w' q c ⟨cap, xs.tail.map (Value.int .i64), cl⟩ ∧ Only q c w w' ∧ (∀ U, LowB U w c → LowB U w' c) ∧ ∀ k, Away w c k → Away w' c k := by
  subst hl
  cases xs with
  | cons x t =>
    refine (takeI_some x _ h).mono ?_
    rintro e w' ⟨rfl, hq, ho⟩
    exact ⟨by simp [hdI], hq, ho⟩
  | nil =>
    cases cl with
    | false =>
      refine (takeI_none h).mono ?_
      rintro e w' ⟨rfl, rfl⟩
      exact ⟨rfl, h, Only.refl _ _ _, fun _ h => h, fun _ h => h⟩
    | true =>
      refine (takeI_shut h).mono ?_
      rintro e w' ⟨rfl, rfl⟩
      exact ⟨rfl, h, Only.refl _ _ _, fun _ h => h, fun _ h => h⟩
end
end Go.Proofs.Ythimgldohhaimaa
