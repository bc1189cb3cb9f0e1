/-
  Package tree: New.
-/
import Derived.Test.YtjcinhlghlcknaaTr8
import Derived.Laws.MakeOwn
import Derived.Deep.RegionWith
import Derived.Deep.DeepCutAuto
namespace Go.Proofs.Ytjcinhlghlcknaa
open Go.RowKit

theorem run_eql_func_nil (w : World) (fn : Fn) (fi ca : Array Value) : (binOp .eql 29 (.func fn fi ca) .nilFunc).run Try.prog w = .ok (.bool false) w := by
  have hx : ∀ n : Nat, (Op.equalIn (n + 1) 29 (.func fn fi ca) .nilFunc).run Try.prog w = .ok false w := fun n => by
    simp [Op.equalIn, run_underlying Try.underlying29]
  simp only [binOp]
  simp [Op.equal, Op.maxDepth, hx 9999]
theorem run_eql_nil_nil (w : World) : (binOp .eql 29 .nilFunc .nilFunc).run Try.prog w = .ok (.bool true) w := by
  have hx : ∀ n : Nat, (Op.equalIn (n + 1) 29 .nilFunc .nilFunc).run Try.prog w = .ok true w := fun n => by
    simp [Op.equalIn, run_underlying Try.underlying29]
  simp only [binOp]
  simp [Op.equal, Op.maxDepth, hx 9999]
theorem thC_rep (n : Nat) : thC (List.replicate n noLf) = List.replicate (n * 2) (Value.int .i64 0) := by
  induction n with
  | zero => rfl
  | succ n ih =>
    rw [List.replicate_succ, show (n + 1) * 2 = n * 2 + 1 + 1 by omega, List.replicate_succ, List.replicate_succ, ← ih]
    rfl
theorem info_pairT : (Try.prog.info? 28).map (fun i => (i.zero, i.size, i.bytes)) = some (some (.agg #[.int .i64 0, .int .i64 0]), 2, 16) := by kernel_rfl
theorem info_intT : (Try.prog.info? 3).map (fun i => (i.zero, i.size, i.bytes)) = some (some (.int .i64 0), 1, 8) := by kernel_rfl
theorem made_pairs (n : Nat) : madeCells #[.int .i64 0, .int .i64 0] (n * 2) = (thC (List.replicate n noLf)).toArray := by
  rw [thC_rep]
  apply Array.ext'
  apply List.ext_getElem?
  intro o
  by_cases ho : o < n * 2
  · have e1 : (madeCells #[.int .i64 0, .int .i64 0] (n * 2)).toList[o]? = some (#[Value.int .i64 0, .int .i64 0][o % 2]!) := by
      simp [madeCells, ho]
    rw [e1, show (List.replicate (n * 2) (Value.int .i64 0)).toArray.toList[o]? = some (.int .i64 0) by simp [ho]]
    have hm : o % 2 = 0 ∨ o % 2 = 1 := by omega
    rcases hm with hm | hm <;> rw [hm] <;> rfl
  · rw [List.getElem?_eq_none (by simp [size_madeCells]; omega), List.getElem?_eq_none (by simp; omega)]
theorem made_ints (n : Nat) : madeCells #[.int .i64 0] (n * 1) = (wnC (List.replicate n 0)).toArray := by
  apply Array.ext'
  apply List.ext_getElem?
  intro o
  by_cases ho : o < n
  · have e1 : (madeCells #[.int .i64 0] (n * 1)).toList[o]? = some (#[Value.int .i64 0][o % 1]!) := by
      simp [madeCells, ho]
    rw [e1, show (wnC (List.replicate n 0)).toArray.toList[o]? = some (.int .i64 0) by simp [wnC, ho], Nat.mod_one]
    rfl
  · rw [List.getElem?_eq_none (by simp [size_madeCells]; omega), List.getElem?_eq_none (by simp [wnC]; omega)]
theorem make_things (n : Nat) (hn : n ≤ 64) (w : World) : (Instr.makeSlice 42 (.int .i64 n) (.int .i64 n)).run Try.prog w =
    .ok (.slice (some ⟨w.heap.size, 0, none⟩) n n) (w.alloc (.cells (thC (List.replicate n noLf)).toArray 28)) := by
  obtain ⟨i0, hi, hz0, hz1, hz2⟩ := info_parts info_pairT
  have h := run_make (P := Try.prog) w 42 28 i0 _ Try.underlying42 hi hz0 .i64 .i64 n n (by omega) (Int.le_refl _) (by rw [hz2]; omega) (by omega)
  rw [hz1] at h
  simp only [Int.toNat_natCast] at h
  have e : madeCells (Value.agg #[.int .i64 0, .int .i64 0]).cells (n * 2) = (thC (List.replicate n noLf)).toArray := made_pairs n
  rw [e] at h
  exact h
theorem make_wins (n : Nat) (hn : n ≤ 128) (w : World) : (Instr.makeSlice 57 (.int .i64 n) (.int .i64 n)).run Try.prog w =
    .ok (.slice (some ⟨w.heap.size, 0, none⟩) n n) (w.alloc (.cells (wnC (List.replicate n 0)).toArray 3)) := by
  obtain ⟨i0, hi, hz0, hz1, hz2⟩ := info_parts info_intT
  have h := run_make (P := Try.prog) w 57 3 i0 _ Try.underlying57 hi hz0 .i64 .i64 n n (by omega) (Int.le_refl _) (by rw [hz2]; omega) (by omega)
  rw [hz1] at h
  simp only [Int.toNat_natCast] at h
  have e : madeCells (Value.int .i64 0).cells (n * 1) = (wnC (List.replicate n 0)).toArray := made_ints n
  rw [e] at h
  exact h
/-- A tree that is being made. -/
def NewT (B : Nat) (w : World) (t a b : Nat) (ov : Value) (n K j : Nat) : Prop := TrAt B w t a b ov (List.replicate n noLf) (List.replicate j (-1) ++ List.replicate (K - j) 0)
section
variable {O : Ord8} {w : World} {c : Int}
theorem new_ab (w : World) (ov : Value) (n K : Nat) :
    NewT w.heap.size (((w.alloc (.cells (thC (List.replicate n noLf)).toArray 28)).alloc (.cells (wnC (List.replicate K 0)).toArray 3)).alloc (.cells #[ov, .slice (some ⟨w.heap.size, 0, none⟩) n n, .slice (some ⟨w.heap.size + 1, 0, none⟩) K K] 59)) (w.heap.size + 1 + 1) w.heap.size (w.heap.size + 1) ov n K 0 := by
  have h1 := (MapKept.heap_alloc w (.cells (thC (List.replicate n noLf)).toArray 28)).1
  generalize hw1 : w.alloc (.cells (thC (List.replicate n noLf)).toArray 28) = w1 at h1 ⊢
  have s1 : w1.heap.size = w.heap.size + 1 := by rw [← hw1, World.size_alloc]
  have h2 := (MapKept.heap_alloc w1 (.cells (wnC (List.replicate K 0)).toArray 3)).1
  have h1' := ((ba w1 (.cells (wnC (List.replicate K 0)).toArray 3)).block w.heap.size (by omega)).trans h1
  generalize hw2 : w1.alloc (.cells (wnC (List.replicate K 0)).toArray 3) = w2 at h2 h1' ⊢
  have s2 : w2.heap.size = w.heap.size + 1 + 1 := by rw [← hw2, World.size_alloc, s1]
  rw [s1] at h2
  have h3 := (MapKept.heap_alloc w2 (.cells #[ov, .slice (some ⟨w.heap.size, 0, none⟩) n n, .slice (some ⟨w.heap.size + 1, 0, none⟩) K K] 59)).1
  have hb := ba w2 (.cells #[ov, .slice (some ⟨w.heap.size, 0, none⟩) n n, .slice (some ⟨w.heap.size + 1, 0, none⟩) K K] 59)
  rw [s2] at h3
  unfold NewT
  refine ⟨?_, (hb.block _ (by omega)).trans h1', ?_, ⟨by omega, by omega, by omega⟩⟩
  · rw [h3]; simp
  · have := (hb.block (w.heap.size + 1) (by omega)).trans h2
    rw [this]; simp
theorem new_ba (w : World) (ov : Value) (n K : Nat) :
    NewT w.heap.size (((w.alloc (.cells (wnC (List.replicate K 0)).toArray 3)).alloc (.cells (thC (List.replicate n noLf)).toArray 28)).alloc (.cells #[ov, .slice (some ⟨w.heap.size + 1, 0, none⟩) n n, .slice (some ⟨w.heap.size, 0, none⟩) K K] 59)) (w.heap.size + 1 + 1) (w.heap.size + 1) w.heap.size ov n K 0 := by
  have h1 := (MapKept.heap_alloc w (.cells (wnC (List.replicate K 0)).toArray 3)).1
  generalize hw1 : w.alloc (.cells (wnC (List.replicate K 0)).toArray 3) = w1 at h1 ⊢
  have s1 : w1.heap.size = w.heap.size + 1 := by rw [← hw1, World.size_alloc]
  have h2 := (MapKept.heap_alloc w1 (.cells (thC (List.replicate n noLf)).toArray 28)).1
  have h1' := ((ba w1 (.cells (thC (List.replicate n noLf)).toArray 28)).block w.heap.size (by omega)).trans h1
  generalize hw2 : w1.alloc (.cells (thC (List.replicate n noLf)).toArray 28) = w2 at h2 h1' ⊢
  have s2 : w2.heap.size = w.heap.size + 1 + 1 := by rw [← hw2, World.size_alloc, s1]
  rw [s1] at h2
  have h3 := (MapKept.heap_alloc w2 (.cells #[ov, .slice (some ⟨w.heap.size + 1, 0, none⟩) n n, .slice (some ⟨w.heap.size, 0, none⟩) K K] 59)).1
  have hb := ba w2 (.cells #[ov, .slice (some ⟨w.heap.size + 1, 0, none⟩) n n, .slice (some ⟨w.heap.size, 0, none⟩) K K] 59)
  rw [s2] at h3
  unfold NewT
  refine ⟨?_, ?_, ?_, ⟨by omega, by omega, by omega⟩⟩
  · rw [h3]; simp
  · exact (hb.block _ (by omega)).trans h2
  · have := (hb.block w.heap.size (by omega)).trans h1'
    rw [this]; simp
theorem newT_put {B t a b n K j : Nat} {ov : Value} (h : NewT B w t a b ov n K j) (hj : j < K) : NewT B (w.setCell ⟨b, j, none⟩ (.int .i64 (-1))) t a b ov n K (j + 1) := by
  unfold NewT at h ⊢
  have h2 := h.win j (-1)
  have e : (List.replicate j (-1 : Int) ++ List.replicate (K - j) 0).set j (-1) = List.replicate (j + 1) (-1) ++ List.replicate (K - (j + 1)) 0 := by
    obtain ⟨q, hq⟩ : ∃ q, K - j = q + 1 := ⟨K - j - 1, by omega⟩
    rw [hq, show K - (j + 1) = q by omega, List.set_append_right _ _ (by simp)]
    rw [List.replicate_succ' (n := j)]
    simp [List.replicate_succ]
  rwa [e] at h2
theorem newT_cells {B t a b n K j : Nat} {ov : Value} (h : NewT B w t a b ov n K j) (hj : j ≤ K) : w.cell? ⟨t, 2, none⟩ = some (.slice (some ⟨b, 0, none⟩) K K) ∧ ∀ i, i < K → w.frozen? ⟨b, i, none⟩ = false ∧ ∃ v, w.cell? ⟨b, i, none⟩ = some v := by
  unfold NewT at h
  have hl : (List.replicate j (-1 : Int) ++ List.replicate (K - j) 0).length = K := by simp; omega
  have h2 := h.c2
  rw [hl] at h2
  exact ⟨h2, fun i hi => ⟨h.fb i, _, h.wn (by rw [hl]; exact hi)⟩⟩
theorem newT_lo {B t a b n K j : Nat} {ov : Value} (h : NewT B w t a b ov n K j) : B ≤ b := by
  unfold NewT at h; exact h.lo.2.2
theorem newT_done {B t a b n K s : Nat} {ov : Value} (_hO : OrdOk O) (hJ : O.J w c) (hov : O.ov = ov) (h : NewT B w t a b ov n K K) (hK : K = 2 * 2 ^ s) (h1 : 1 ≤ n) (h2 : n ≤ 2 ^ s) (h6 : s ≤ 6) : T8 O B w t a b (List.replicate n noLf) (2 ^ s) s c := by
  unfold NewT at h
  rw [Nat.sub_self, List.replicate_zero, List.append_nil, hK, ← hov] at h
  exact ⟨⟨_, h, WnX.new n h1 h2⟩, hJ, Zs.rep n, rfl, h6⟩
/-- What New leaves. -/
def NewE (O : Ord8) (n : Nat) (c : Int) (w : World) (e : Ending) (w' : World) : Prop :=
  ∃ t a b, e = .returned (.tuple #[.pointer (some ⟨t, 0, none⟩), .int .i64 0]) ∧ T8 O w.heap.size w' t a b (List.replicate n noLf) (2 ^ stpT n) (stpT n) c ∧ Below w.heap.size w w'
theorem shl2 {s : Nat} (hs : s ≤ 6) : wrap64 (2 * 2 ^ s) = ((2 * 2 ^ s : Nat) : Int) := by
  have hc : s = 0 ∨ s = 1 ∨ s = 2 ∨ s = 3 ∨ s = 4 ∨ s = 5 ∨ s = 6 := by omega
  rcases hc with rfl | rfl | rfl | rfl | rfl | rfl | rfl
  all_goals
    unfold wrap64
    omega
set_option maxRecDepth 100000 in
set_option maxHeartbeats 4000000 in
theorem new_in (hO : OrdOk O) (hJ : O.J w c) {fn : Fn} {fi ca : Array Value} (hov : O.ov = .func fn fi ca) {n : Nat} (h1 : 1 ≤ n) (h2 : n ≤ 64) :
    Calls Try.prog 8 #[.int .i64 n, O.ov] w (NewE O n c w) := by
  have h6 := stpT_le n
  have hs := shl2 h6
  have hmk1 := make_things n h2
  obtain ⟨K, hK⟩ : ∃ K, K = 2 * 2 ^ stpT n := ⟨_, rfl⟩
  have hK128 : K ≤ 128 := by
    have : 2 ^ stpT n ≤ 2 ^ 6 := Nat.pow_le_pow_right (by omega) h6
    omega
  have hmk2 := make_wins K hK128
  rw [← hK] at hs
  have hs2 : IntKind.i64.wrap (2 * 2 ^ stpT n) = (K : Int) := by rw [IntWalk.i64_left]; exact hs
  have HS := Lib.hid (steps_any n)
  have HK := Lib.hid hK
  have HO := Lib.hid hO
  have HJ := Lib.hid hJ
  have HN1 := Lib.hid (fun W : World => new_ab W O.ov n K)
  have HN2 := Lib.hid (fun W : World => new_ba W O.ov n K)
  have n1 : ¬ (n : Int) < 1 := by omega
  have n2 : ¬ (64 : Int) < (n : Int) := by omega
  have HOV := Lib.hid hov
  have hq := run_eql_func_nil w fn fi ca
  rw [hov] at HN1 HN2 ⊢
  generalize hst : stpT n = s at hs hs2 HS HK h6
  have HST := Lib.hid hst
  clear hK hO hJ hov hst
  go_enter Try.func8, Try.ntmps8
  go_upto_region 3 with fail
  go_cut [6] (fun v wx => ∃ t a b, v = .pointer (some ⟨t, 0, none⟩) ∧ Hid (NewT w.heap.size wx t a b (.func fn fi ca) n K 0) ∧ Hid (Below w.heap.size w wx))
  case first =>
    go_region_with (go_at_call 18; refine (HS.out _).mono ?_; rintro e w1 ⟨rfl, rfl⟩)
    all_goals
      go_wp2_with fail
      go_meet
      case rel => first
        | exact ⟨_, _, _, rfl, Lib.hid ((HN1.out w).same rfl rfl rfl), Lib.hid (Below.drew (((Below.refl w.heap.size w).alloc (Nat.le_refl _) _ |>.alloc (by simp) _).alloc (by simp; omega) _))⟩
        | exact ⟨_, _, _, rfl, Lib.hid ((HN2.out w).same rfl rfl rfl), Lib.hid (Below.drew (((Below.refl w.heap.size w).alloc (Nat.le_refl _) _ |>.alloc (by simp) _).alloc (by simp; omega) _))⟩
  case rest =>
    obtain ⟨t, a, b, rfl, HT, HB⟩ := hcut
    have hc := (newT_cells HT.out (Nat.zero_le _)).1
    clear hmk1 hmk2 hq hs hs2
    go_wp2_with fail
    clear hc
    go_loopw [32] (fun jj wr => ∃ j : Nat, jj = .int .i64 j ∧ j ≤ K ∧ Hid (NewT w.heap.size wr t a b (.func fn fi ca) n K j) ∧ Hid (Below w.heap.size w wr)) (fun jj _ => K - (intOf jj).toNat)
    case atStart => exact ⟨0, rfl, Nat.zero_le _, HT, HB⟩
    case round =>
      obtain ⟨j, rfl, hj, HTr, HBr⟩ := hrel
      obtain ⟨hc, hcf⟩ := newT_cells HTr.out hj
      by_cases hlt : j < K
      · obtain ⟨hf, v, hv⟩ := hcf j hlt
        have HP := Lib.hid (newT_put HTr.out hlt)
        clear hcf
        go_wp2_with fail
        go_roundw
        case rel => exact ⟨j + 1, by go_num, hlt, HP, Lib.hid (HBr.out.setCell (newT_lo HTr.out) _)⟩
        case measure => simp [intOf]; omega
      · obtain rfl : j = K := by omega
        clear hcf
        go_wp2_with fail
        go_ret2
        refine ⟨t, a, b, rfl, ?_, HBr.out⟩
        rw [HST.out]
        exact newT_done HO.out (HO.out.below HJ.out ⟨HBr.out.os, HBr.out.tape, HBr.out.output, HBr.out.size, HBr.out.block⟩) HOV.out HTr.out HK.out h1 (by rw [← HST.out]; exact stpT_hi n h2) h6
set_option maxRecDepth 100000 in
set_option maxHeartbeats 1000000 in
theorem new_out {ov : Value} {n : Int} (h : n < 1 ∨ 64 < n) :
    Calls Try.prog 8 #[.int .i64 n, ov] w fun e w' => e = .returned (.tuple #[.pointer none, .int .i64 1]) ∧ w = w' := by
  by_cases h1 : n < 1
  · go_enter Try.func8, Try.ntmps8
    go_wp2_with fail
    go_ret2
    exact ⟨rfl, rfl⟩
  · have h2 : 64 < n := by omega
    clear h
    go_enter Try.func8, Try.ntmps8
    go_wp2_with fail
    go_ret2
    exact ⟨rfl, rfl⟩
set_option maxRecDepth 100000 in
set_option maxHeartbeats 1000000 in
theorem new_nil (n : Int) :
    Calls Try.prog 8 #[.int .i64 n, .nilFunc] w fun e w' => e = .returned (.tuple #[.pointer none, .int .i64 1]) ∧ w = w' := by
  by_cases h : n < 1 ∨ 64 < n
  · exact new_out h
  · have h1 : ¬ n < 1 := by omega
    have h2 : ¬ 64 < n := by omega
    have hq := run_eql_nil_nil w
    clear h
    go_enter Try.func8, Try.ntmps8
    go_wp2_with fail
    go_ret2
    exact ⟨rfl, rfl⟩
end
end Go.Proofs.Ytjcinhlghlcknaa
