/-
  As wip/value/XTab, with names that do not clash with lex's tables. Contracts of value.And, value.Or, value.Not, value.Of, over the three tables of truths.
Parts together, plainly.
Contracts of what calc makes of two ints: sums and the like.
Contracts of isNull, isWrong, reckon.
-/
import Derived.Test.YtpokpiphnggfpaaGreatDoorZ6
import Derived.Deep.QuietTactic
import Derived.BigQuiet
section
namespace Go.Proofs.YtpokpiphnggfpaaGreatDoor
open Go.RowKit Go.Shelf

/-- The three tables, cell by cell. -/
structure TabV (w : World) : Prop where
  a0 : w.cell? ⟨2, 0, none⟩ = some (.int .i64 0)
  a1 : w.cell? ⟨2, 1, none⟩ = some (.int .i64 0)
  a2 : w.cell? ⟨2, 2, none⟩ = some (.int .i64 0)
  a3 : w.cell? ⟨2, 3, none⟩ = some (.int .i64 0)
  a4 : w.cell? ⟨2, 4, none⟩ = some (.int .i64 1)
  a5 : w.cell? ⟨2, 5, none⟩ = some (.int .i64 2)
  a6 : w.cell? ⟨2, 6, none⟩ = some (.int .i64 0)
  a7 : w.cell? ⟨2, 7, none⟩ = some (.int .i64 2)
  a8 : w.cell? ⟨2, 8, none⟩ = some (.int .i64 2)
  o0 : w.cell? ⟨1, 0, none⟩ = some (.int .i64 0)
  o1 : w.cell? ⟨1, 1, none⟩ = some (.int .i64 1)
  o2 : w.cell? ⟨1, 2, none⟩ = some (.int .i64 2)
  o3 : w.cell? ⟨1, 3, none⟩ = some (.int .i64 1)
  o4 : w.cell? ⟨1, 4, none⟩ = some (.int .i64 1)
  o5 : w.cell? ⟨1, 5, none⟩ = some (.int .i64 1)
  o6 : w.cell? ⟨1, 6, none⟩ = some (.int .i64 2)
  o7 : w.cell? ⟨1, 7, none⟩ = some (.int .i64 1)
  o8 : w.cell? ⟨1, 8, none⟩ = some (.int .i64 2)
  n0 : w.cell? ⟨0, 0, none⟩ = some (.int .i64 1)
  n1 : w.cell? ⟨0, 1, none⟩ = some (.int .i64 0)
  n2 : w.cell? ⟨0, 2, none⟩ = some (.int .i64 2)

theorem ltV_of_cell {w : World} {p : Addr} {v : Value} (h : w.cell? p = some v) : p.block < w.heap.size := by
  rcases Nat.lt_or_ge p.block w.heap.size with hl | hg
  · exact hl
  · rw [World.cell?, Array.getElem?_eq_none hg] at h; cases h
theorem cellV_kept {w w' : World} (hb : Below w.heap.size w w') {p : Addr} {v : Value} (h : w.cell? p = some v) : w'.cell? p = some v :=
  (hb.cell (ltV_of_cell h)).trans h
theorem TabV.kept {w w' : World} (h : TabV w) (hb : Below w.heap.size w w') : TabV w' := by
  exact ⟨cellV_kept hb h.a0, cellV_kept hb h.a1, cellV_kept hb h.a2, cellV_kept hb h.a3, cellV_kept hb h.a4, cellV_kept hb h.a5, cellV_kept hb h.a6, cellV_kept hb h.a7, cellV_kept hb h.a8,
    cellV_kept hb h.o0, cellV_kept hb h.o1, cellV_kept hb h.o2, cellV_kept hb h.o3, cellV_kept hb h.o4, cellV_kept hb h.o5, cellV_kept hb h.o6, cellV_kept hb h.o7, cellV_kept hb h.o8,
    cellV_kept hb h.n0, cellV_kept hb h.n1, cellV_kept hb h.n2⟩

set_option maxHeartbeats 400000 in
theorem tr_b (c n : Int) (w : World) (h : tr n = c) :
    Calls Tryz.prog 78 #[.int .i64 n] w fun e w' => e = .returned (.int .i64 c) ∧ w' = w := by
  subst h
  go_enter Tryz.func78, Tryz.ntmps78
  go_wp2
  all_goals
    go_ret
    exact ⟨ret_int (by unfold tr; split <;> omega), rfl⟩

set_option maxHeartbeats 1000000 in
theorem not_any (a : Int) (w : World) (hT : TabV w) :
    Calls Tryz.prog 61 #[.int .i64 a] w fun e w' => e = .returned (.int .i64 (notT (tr a))) ∧ Below w.heap.size w w' := by
  have n0 := hT.n0
  have n1 := hT.n1
  have n2 := hT.n2
  clear hT
  rcases tr_three a with h | h | h
  all_goals
    rw [h]
    have H := Lib.hid h
    clear h
    go_enter Tryz.func61, Tryz.ntmps61
    go_wp2_with fail
    refine (tr_b _ _ _ H.out).mono ?_
    rintro e w' ⟨rfl, rfl⟩
    go_wp2_with fail
    go_ret
    exact ⟨ret_int (by decide), Below.refl _ _⟩

set_option maxHeartbeats 1000000 in
theorem and_any (a b : Int) (w : World) (hT : TabV w) :
    Calls Tryz.prog 81 #[.int .i64 a, .int .i64 b] w fun e w' => e = .returned (.int .i64 (andT (tr a) (tr b))) ∧ Below w.heap.size w w' := by
  have a0 := hT.a0
  have a1 := hT.a1
  have a2 := hT.a2
  have a3 := hT.a3
  have a4 := hT.a4
  have a5 := hT.a5
  have a6 := hT.a6
  have a7 := hT.a7
  have a8 := hT.a8
  clear hT
  rcases tr_three a with h | h | h
  all_goals
    rw [h]
    have H := Lib.hid h
    clear h
    rcases tr_three b with h | h | h
    all_goals
      rw [h]
      have H' := Lib.hid h
      clear h
      go_enter Tryz.func81, Tryz.ntmps81
      go_wp2_with fail
      go_quiet ((go_at_call 78; first | with_reducible exact Calls.quiet_of_same (tr_b _ _ _ H.out) | with_reducible exact Calls.quiet_of_same (tr_b _ _ _ H'.out)))
      go_wp2
      go_ret
      exact ⟨ret_int (by decide), below_drewN (Below.refl _ _) _⟩

set_option maxHeartbeats 1000000 in
theorem or_any (a b : Int) (w : World) (hT : TabV w) :
    Calls Tryz.prog 80 #[.int .i64 a, .int .i64 b] w fun e w' => e = .returned (.int .i64 (orT (tr a) (tr b))) ∧ Below w.heap.size w w' := by
  have o0 := hT.o0
  have o1 := hT.o1
  have o2 := hT.o2
  have o3 := hT.o3
  have o4 := hT.o4
  have o5 := hT.o5
  have o6 := hT.o6
  have o7 := hT.o7
  have o8 := hT.o8
  clear hT
  rcases tr_three a with h | h | h
  all_goals
    rw [h]
    have H := Lib.hid h
    clear h
    rcases tr_three b with h | h | h
    all_goals
      rw [h]
      have H' := Lib.hid h
      clear h
      go_enter Tryz.func80, Tryz.ntmps80
      go_wp2_with fail
      go_quiet ((go_at_call 78; first | with_reducible exact Calls.quiet_of_same (tr_b _ _ _ H.out) | with_reducible exact Calls.quiet_of_same (tr_b _ _ _ H'.out)))
      go_wp2
      go_ret
      exact ⟨ret_int (by decide), below_drewN (Below.refl _ _) _⟩

set_option maxHeartbeats 400000 in
theorem of_any (a : Int) (w : World) :
    Calls Tryz.prog 60 #[.int .i64 a] w fun e w' => e = .returned (VV (ofK a) (ofN a) ⟨#[]⟩) ∧ Below w.heap.size w w' := by
  by_cases h0 : a = 0
  · subst h0
    have HK := Lib.hid (show ofK 0 = 1 by decide)
    have HN := Lib.hid (show ofN 0 = 0 by decide)
    go_enter Tryz.func60, Tryz.ntmps60
    go_wp2_with fail
    refine (bool_false _).mono ?_
    rintro e w1 ⟨rfl, hb1⟩
    obtain ⟨hc1, hf1⟩ := bcell hb1
    obtain ⟨c0, c1, c2⟩ := box1 hb1
    go_wp2_with fail
    refine bodyPost_ret (v := VV 1 0 ⟨#[]⟩) (by simp [results, Tryz.results60, go_sem, c0, c1, c2]) rfl ⟨?_, ?_⟩
    · rw [HK.out, HN.out]
    · exact ((((ba w _).trans (hb1.mono (by simp))).setCell (Nat.le_refl _) _).setCell (Nat.le_refl _) _).setCell (Nat.le_refl _) _
  · by_cases h1 : a = 1
    · subst h1
      have HK := Lib.hid (show ofK 1 = 1 by decide)
      have HN := Lib.hid (show ofN 1 = 1 by decide)
      go_enter Tryz.func60, Tryz.ntmps60
      go_wp2_with fail
      refine (bool_true _).mono ?_
      rintro e w1 ⟨rfl, hb1⟩
      obtain ⟨hc1, hf1⟩ := bcell hb1
      obtain ⟨c0, c1, c2⟩ := box1 hb1
      go_wp2_with fail
      refine bodyPost_ret (v := VV 1 1 ⟨#[]⟩) (by simp [results, Tryz.results60, go_sem, c0, c1, c2]) rfl ⟨?_, ?_⟩
      · rw [HK.out, HN.out]
      · exact ((((ba w _).trans (hb1.mono (by simp))).setCell (Nat.le_refl _) _).setCell (Nat.le_refl _) _).setCell (Nat.le_refl _) _
    · have HK := Lib.hid (show ofK a = 0 by simp [ofK, h0, h1])
      have HN := Lib.hid (show ofN a = 0 by simp [ofN, h1])
      have h0' : (a == 0) = false := by simpa using h0
      have h1' : (a == 1) = false := by simpa using h1
      clear h0 h1
      go_enter Tryz.func60, Tryz.ntmps60
      go_wp2_with fail
      refine (null_any _).mono ?_
      rintro e w1 ⟨rfl, hb1⟩
      obtain ⟨hc1, hf1⟩ := bcell hb1
      obtain ⟨c0, c1, c2⟩ := box1 hb1
      go_wp2_with fail
      refine bodyPost_ret (v := VV 0 0 ⟨#[]⟩) (by simp [results, Tryz.results60, go_sem, c0, c1, c2]) rfl ⟨?_, ?_⟩
      · rw [HK.out, HN.out]
      · exact ((((ba w _).trans (hb1.mono (by simp))).setCell (Nat.le_refl _) _).setCell (Nat.le_refl _) _).setCell (Nat.le_refl _) _

end Go.Proofs.YtpokpiphnggfpaaGreatDoor
end
section
namespace Go.Proofs.YtpokpiphnggfpaaGreatDoor
open Go.RowKit Go.Shelf

theorem safe_ofC {x : Ex} : safeB x = (okX x && !errsX x) := by rw [safeB, meas_some, errs_preo]
mutual
theorem good_up : ∀ (x : Ex) (d d' : Nat) (ag : Bool), d' ≤ d → goodB x d ag = true → goodB x d' ag = true
  | .mk h l, d, d', ag, hd, hg => by
    rw [goodB_mk] at hg ⊢
    simp only [Bool.and_eq_true, decide_eq_true_eq] at hg ⊢
    exact ⟨⟨⟨by omega, hg.1.1.2⟩, hg.1.2⟩, goods_up l (d + 1) (d' + 1) _ (by omega) hg.2⟩
theorem goods_up : ∀ (l : List Ex) (d d' : Nat) (ag : Bool), d' ≤ d → goodBs l d ag = true → goodBs l d' ag = true
  | [], _, _, _, _, _ => by rw [goodBs]
  | x :: r, d, d', ag, hd, hg => by
    rw [goodBs, Bool.and_eq_true] at hg ⊢
    exact ⟨good_up x d d' ag hd hg.1, goods_up r d d' ag hd hg.2⟩
end
theorem ok_kid2 {h : Hd} {a b : Ex} {l : List Ex} (hk : h.k = 3) (ho : okX (.mk h (a :: b :: l)) = true) : okX a = true ∧ okX b = true := by
  have ho : goodB (.mk h (a :: b :: l)) 1 false = true ∧ cnt (.mk h (a :: b :: l)) ≤ 512 := by simpa [okX] using ho
  obtain ⟨hg, hc⟩ := ho
  rw [goodB_mk, goodBs, goodBs] at hg
  have e : (false || h.k == 4) = false := by simp [hk]
  rw [e] at hg
  simp only [Bool.and_eq_true] at hg
  rw [cnt, cntL, cntL] at hc
  refine ⟨?_, ?_⟩
  · have := good_up a (1 + 1) 1 false (by omega) hg.2.1
    simp [okX, this]; omega
  · have := good_up b (1 + 1) 1 false (by omega) hg.2.2.1
    simp [okX, this]; omega
theorem hlds_two {r : List Va} {s : Bool} {h : Hd} {a b : Ex} {l : List Ex} (hk : h.k = 3) (hn : h.n = 2) : hldX r s (.mk h (a :: b :: l)) = sqB (hldX r s a) (hldX r s b) := by
  rw [hldX_mk, hldT.eq_def, if_pos ⟨hk, hn⟩, hldXs.eq_2, hldXs.eq_2]
theorem hlds_one {r : List Va} {s : Bool} {h : Hd} {l : List Ex} (hk : ¬ (h.k = 3 ∧ h.n = 2)) : hldX r s (.mk h l) = if safeB (.mk h l) = s then trueA (comX r (.mk h l)) else some true := by
  rw [hldX_mk, hldT.eq_def, if_neg hk]
theorem fit_two {h : Hd} {l : List Ex} (hk : h.k = 3) (hn : h.n = 2) (hf : fitsB h l.length = true) : ∃ a b, l = [a, b] := by
  obtain ⟨_, _, hl⟩ := fits_op (by omega) (by omega) (by omega) hf
  have : arI h.n = 2 := by rw [hn]; rfl
  match l, hl with
  | [], hl => simp at hl; omega
  | [a], hl => simp at hl; omega
  | [a, b], _ => exact ⟨a, b, rfl⟩
  | a :: b :: c :: l, hl => simp at hl; omega
theorem seq_some {a b : Option Bool} (ha : a.isSome = true) (hb : b.isSome = true) : (sqB a b).isSome = true := by
  match a, ha with
  | some false, _ => rfl
  | some true, _ => exact hb
theorem seq_true {a b : Option Bool} : sqB a b = some true ↔ a = some true ∧ b = some true := by
  match a with
  | none => simp [sqB]
  | some false => simp [sqB]
  | some true => simp [sqB]
/-- The safe ones never err. -/
theorem hld_safe (r : List Va) : ∀ (N : Nat) (x : Ex), cnt x ≤ N → FitX x → (hldX r true x).isSome = true := by
  intro N
  induction N with
  | zero => intro x hc; have := cnt_pos x; omega
  | succ N ih =>
    intro x hc hx
    obtain ⟨h, l⟩ := x
    by_cases hk : h.k = 3 ∧ h.n = 2
    · rw [FitX] at hx
      obtain ⟨a, b, rfl⟩ := fit_two hk.1 hk.2 hx.1
      rw [cnt, cntL, cntL] at hc
      rw [FitXs, FitXs] at hx
      rw [hlds_two hk.1 hk.2]
      exact seq_some (ih a (by omega) hx.2.1) (ih b (by omega) hx.2.2.1)
    · rw [hlds_one hk]
      split
      · rename_i hs
        rw [safe_ofC, Bool.and_eq_true, Bool.not_eq_true'] at hs
        have := com_some r (.mk h l) hx hs.2
        unfold trueA
        rw [Option.isSome_map]; exact this
      · rfl
/-- Nothing is asked of the other ones where all is safe. -/
theorem hld_other (r : List Va) : ∀ (N : Nat) (x : Ex), cnt x ≤ N → okX x = true → errsX x = false → hldX r false x = some true := by
  intro N
  induction N with
  | zero => intro x hc; have := cnt_pos x; omega
  | succ N ih =>
    intro x hc hx he
    obtain ⟨h, l⟩ := x
    by_cases hk : h.k = 3 ∧ h.n = 2
    · have hf := (ok_fit hx).1
      rw [FitX] at hf
      obtain ⟨a, b, rfl⟩ := fit_two hk.1 hk.2 hf.1
      rw [cnt, cntL, cntL] at hc
      rw [errsX, errsXs, errsXs, Bool.or_eq_false_iff, Bool.or_eq_false_iff, Bool.or_eq_false_iff] at he
      obtain ⟨ha, hb⟩ := ok_kid2 hk.1 hx
      rw [hlds_two hk.1 hk.2]
      exact seq_true.2 ⟨ih a (by omega) ha he.2.1, ih b (by omega) hb he.2.2.1⟩
    · rw [hlds_one hk, safe_ofC, hx, he]; rfl
/-- What is safe holds or does not. -/
theorem hold_safe {r : List Va} {x : Ex} (ho : okX x = true) (he : errsX x = false) : holdO r x = hldX r true x ∧ (hldX r true x).isSome = true := by
  have h1 := hld_safe r _ x (Nat.le_refl _) (ok_fit ho).1
  refine ⟨?_, h1⟩
  unfold holdO
  rw [hld_other r _ x (Nat.le_refl _) ho he]
  match hm : hldX r true x with
  | none => rw [hm] at h1; cases h1
  | some true => rfl
  | some false => rfl
/-! Together. -/
abbrev andE (a b : Ex) : Ex := .mk (hdO 2) [a, b]
theorem hld_fold (r : List Va) (s : Bool) : ∀ (l : List Ex) (x : Ex), (hldX r s (l.foldl andE x) = some true ↔ hldX r s x = some true ∧ ∀ y ∈ l, hldX r s y = some true)
  | [], x => by simp
  | y :: l, x => by
    rw [List.foldl_cons, hld_fold r s l (andE x y), hlds_two rfl rfl, seq_true]
    simp only [List.mem_cons, forall_eq_or_imp]
    exact ⟨fun ⟨⟨a, b⟩, c⟩ => ⟨a, b, c⟩, fun ⟨a, b, c⟩ => ⟨⟨a, b⟩, c⟩⟩
theorem hold_all {r : List Va} {x : Ex} {l : List Ex} (h : ∀ y ∈ x :: l, holdO r y = some true) : holdO r (l.foldl andE x) = some true := by
  have h' : ∀ y ∈ x :: l, hldX r true y = some true ∧ hldX r false y = some true := fun y hy => seq_true.1 (h y hy)
  exact seq_true.2 ⟨(hld_fold r true l x).2 ⟨(h' x (List.mem_cons_self ..)).1, fun y hy => (h' y (List.mem_cons_of_mem _ hy)).1⟩, (hld_fold r false l x).2 ⟨(h' x (List.mem_cons_self ..)).2, fun y hy => (h' y (List.mem_cons_of_mem _ hy)).2⟩⟩
theorem hold_no {r : List Va} {x y : Ex} {l : List Ex} (hX : okX (l.foldl andE x) = true) (hy : y ∈ x :: l) (ho : okX y = true) (he : errsX y = false) (hf : holdO r y = some false) : holdO r (l.foldl andE x) = some false := by
  have h1 := hld_safe r _ _ (Nat.le_refl _) (ok_fit hX).1
  have h2 : hldX r true y = some false := by rw [← (hold_safe (r := r) ho he).1]; exact hf
  have h3 : ¬ hldX r true (l.foldl andE x) = some true := fun e => by
    have := (hld_fold r true l x).1 e
    have : hldX r true y = some true := by
      rcases List.mem_cons.1 hy with rfl | hy
      · exact this.1
      · exact this.2 y hy
    rw [h2] at this; cases this
  unfold holdO
  match hm : hldX r true (l.foldl andE x) with
  | none => rw [hm] at h1; cases h1
  | some true => exact absurd hm h3
  | some false => rfl
end Go.Proofs.YtpokpiphnggfpaaGreatDoor
end
section
namespace Go.Proofs.YtpokpiphnggfpaaGreatDoor
open Go.RowKit Go.Shelf

/-- What such a function answers. -/
def fn2 (o : Option Int) : Value := match o with
  | some n => .tuple #[.int .i64 n, .bool true]
  | none => .tuple #[.int .i64 0, .bool false]
theorem in_iff {n : Int} : inI n = true ↔ -9007199254740991 ≤ n ∧ n ≤ 9007199254740991 := by simp [inI]
theorem wrap_small {n : Int} (h : -9223372036854775808 ≤ n ∧ n ≤ 9223372036854775807) : IntKind.i64.wrap n = n := by rw [IntKind.wrap_i64]; omega
theorem sum_any (a b : Int) (w : World) (ha : inI a = true) (hb : inI b = true) :
    Calls Tryz.prog 36 #[.int .i64 a, .int .i64 b] w fun e w' => e = .returned (fn2 (sumI a b)) ∧ Below w.heap.size w w' := by
  rw [in_iff] at ha hb
  have hw : IntKind.i64.wrap (a + b) = a + b := wrap_small (by omega)
  go_enter Tryz.func36, Tryz.ntmps36
  go_wp2_with fail
  refine bodyPost_ret (v := .tuple #[.int .i64 (a + b), .bool true]) (by simp [results, Tryz.results36, go_sem]) rfl ⟨rfl, Below.refl _ _⟩
theorem sub_any (a b : Int) (w : World) (ha : inI a = true) (hb : inI b = true) :
    Calls Tryz.prog 63 #[.int .i64 a, .int .i64 b] w fun e w' => e = .returned (fn2 (subI a b)) ∧ Below w.heap.size w w' := by
  rw [in_iff] at ha hb
  have hw : IntKind.i64.wrap (a - b) = a - b := wrap_small (by omega)
  go_enter Tryz.func63, Tryz.ntmps63
  go_wp2_with fail
  refine bodyPost_ret (v := .tuple #[.int .i64 (a - b), .bool true]) (by simp [results, Tryz.results63, go_sem]) rfl ⟨rfl, Below.refl _ _⟩
theorem div_any (a b : Int) (w : World) (ha : inI a = true) (h0 : ¬ b = 0) :
    Calls Tryz.prog 66 #[.int .i64 a, .int .i64 b] w fun e w' => e = .returned (.int .i64 (Int.tdiv a b)) ∧ Below w.heap.size w w' := by
  rw [in_iff] at ha
  have hw : IntKind.i64.wrap (Int.tdiv a b) = Int.tdiv a b := wrap_small (by
    have h1 := Int.natAbs_tdiv_le_natAbs a b
    omega)
  go_enter Tryz.func66, Tryz.ntmps66
  go_wp2_with fail
  go_ret
  exact ⟨rfl, Below.refl _ _⟩
theorem mod_any (a b : Int) (w : World) (ha : inI a = true) (h0 : ¬ b = 0) :
    Calls Tryz.prog 67 #[.int .i64 a, .int .i64 b] w fun e w' => e = .returned (.int .i64 (Int.tmod a b)) ∧ Below w.heap.size w w' := by
  rw [in_iff] at ha
  have hw : IntKind.i64.wrap (Int.tmod a b) = Int.tmod a b := wrap_small (by
    have h1 : (Int.tmod a b).natAbs ≤ a.natAbs := by rw [Int.natAbs_tmod]; exact Nat.mod_le _ _
    omega)
  go_enter Tryz.func67, Tryz.ntmps67
  go_wp2_with fail
  go_ret
  exact ⟨rfl, Below.refl _ _⟩
theorem prod_in {a b : Int} (h : max b (-b) ≤ 9007199254740991 / max a (-a)) (h0 : ¬ a = 0) : -9007199254740991 ≤ a * b ∧ a * b ≤ 9007199254740991 := by
  have ea : max a (-a) = (a.natAbs : Int) := by omega
  have eb : max b (-b) = (b.natAbs : Int) := by omega
  rw [ea, eb] at h
  have h1 : b.natAbs ≤ 9007199254740991 / a.natAbs := by
    have e : ((9007199254740991 / a.natAbs : Nat) : Int) = 9007199254740991 / (a.natAbs : Int) := by rw [Int.natCast_ediv]; rfl
    omega
  have h2 : b.natAbs * a.natAbs ≤ 9007199254740991 := Nat.le_trans (Nat.mul_le_mul_right _ h1) (Nat.div_mul_le_self _ _)
  have h3 : (a * b).natAbs = a.natAbs * b.natAbs := Int.natAbs_mul a b
  rw [Nat.mul_comm] at h2
  omega
theorem prod_any (a b : Int) (w : World) (ha : inI a = true) (hb : inI b = true) :
    Calls Tryz.prog 64 #[.int .i64 a, .int .i64 b] w fun e w' => e = .returned (fn2 (prodI a b)) ∧ Below w.heap.size w w' := by
  rw [in_iff] at ha hb
  by_cases h0 : a = 0
  · subst h0
    have HP := Lib.hid (show prodI 0 b = some 0 by simp [prodI])
    have hw : IntKind.i64.wrap (0 * b) = 0 := by rw [Int.zero_mul]; rfl
    go_enter Tryz.func64, Tryz.ntmps64
    go_wp2_with fail
    refine bodyPost_ret (v := .tuple #[.int .i64 0, .bool true]) (by simp [results, Tryz.results64, go_sem]) rfl ⟨?_, Below.refl _ _⟩
    rw [HP.out]; rfl
  · have hne : (a != 0) = true := by simpa using h0
    have hwb : IntKind.i64.wrap (-b) = -b := wrap_small (by omega)
    have hwa : IntKind.i64.wrap (-a) = -a := wrap_small (by omega)
    obtain ⟨M, hM⟩ : ∃ M, max a (-a) = M := ⟨_, rfl⟩
    go_enter Tryz.func64, Tryz.ntmps64
    go_wp2_with fail
    · rename_i hlt
      refine bodyPost_ret (v := .tuple #[.int .i64 0, .bool false]) (by simp [results, Tryz.results64, go_sem]) rfl ⟨?_, Below.refl _ _⟩
      rw [prodI, if_pos ⟨h0, by rw [hM, Int.tdiv_eq_ediv_of_nonneg (by omega)]; exact hlt⟩]; rfl
    · rename_i hle
      rw [← hM] at hle
      have hp := prod_in hle h0
      have hw : wrap64 (a * b) = a * b := by rw [← IntWalk.i64_left]; exact wrap_small (by omega)
      refine bodyPost_ret (v := .tuple #[.int .i64 (a * b), .bool true]) (by simp [results, Tryz.results64, go_sem, hw]) rfl ⟨?_, Below.refl _ _⟩
      rw [prodI, if_neg (fun h => by have := h.2; rw [Int.tdiv_eq_ediv_of_nonneg (by omega)] at this; omega)]; rfl
end Go.Proofs.YtpokpiphnggfpaaGreatDoor
end
section
namespace Go.Proofs.YtpokpiphnggfpaaGreatDoor
open Go.RowKit Go.Shelf

theorem isNull_any (k n : Int) (s : ByteArray) (w : World) :
    Calls Tryz.prog 29 #[VV k n s] w fun e w' => e = .returned (.bool (k == 0)) ∧ Below w.heap.size w w' := by
  go_enter Tryz.func29, Tryz.ntmps29
  go_wp2_with fail
  go_ret
  exact ⟨rfl, ba _ _⟩
set_option maxHeartbeats 1000000 in
theorem isWrong_any (k n : Int) (s : ByteArray) (w : World) (hs : s.size ≤ 9223372036854775807) {b : Bool} (h : wrongA ⟨k, n, s⟩ = b) :
    Calls Tryz.prog 32 #[VV k n s] w fun e w' => e = .returned (.bool b) ∧ Below w.heap.size w w' := by
  have hc := check_any k n s
  cases hok : okV k n s
  · rw [hok] at hc
    have HC := Lib.hid hc
    have HB := Lib.hid (show b = true by rw [← h]; show (!okV k n s || (k != 2 && k != 0)) = true; rw [hok]; rfl)
    clear hc h hok
    go_enter Tryz.func32, Tryz.ntmps32
    go_wp2_with fail
    refine (HC.out _ hs).mono ?_
    rintro e w1 ⟨rfl, hb1⟩
    go_wp2_with fail
    go_ret
    exact ⟨by rw [HB.out]; rfl, bt (ba _ _) hb1⟩
  · rw [hok] at hc
    have HC := Lib.hid hc
    by_cases h2 : k = 2
    · have hk : (k != 2) = false := by simpa using h2
      have HB := Lib.hid (show b = false by rw [← h]; show (!okV k n s || (k != 2 && k != 0)) = false; rw [hok, hk]; rfl)
      clear hc h hok h2
      go_enter Tryz.func32, Tryz.ntmps32
      go_wp2_with fail
      refine (HC.out _ hs).mono ?_
      rintro e w1 ⟨rfl, hb1⟩
      obtain ⟨c0, c1, c2⟩ := box1 hb1
      go_wp2_with fail
      go_ret
      exact ⟨by rw [HB.out]; rfl, bt (ba _ _) hb1⟩
    · have hk : (k != 2) = true := by simpa using h2
      have HB := Lib.hid (show b = !(k == 0) by rw [← h]; show (!okV k n s || (k != 2 && k != 0)) = !(k == 0); rw [hok, hk]; rfl)
      clear hc h hok h2
      go_enter Tryz.func32, Tryz.ntmps32
      go_wp2_with fail
      refine (HC.out _ hs).mono ?_
      rintro e w1 ⟨rfl, hb1⟩
      obtain ⟨c0, c1, c2⟩ := box1 hb1
      go_wp2_with fail
      refine (isNull_any _ _ _ _).mono ?_
      rintro e w2 ⟨rfl, hb2⟩
      go_wp2_with fail
      go_ret
      exact ⟨by rw [HB.out]; rfl, bt (bt (ba _ _) hb1) hb2⟩
/-- What reckon answers. -/
def rk2 (o : Option Va) : Value := match o with
  | some v => .tuple #[VV v.k v.n v.s, .int .i64 0]
  | none => .tuple #[VV 0 0 ⟨#[]⟩, .int .i64 160]
theorem ok_intA (n : Int) : okV 2 n ⟨#[]⟩ = inI n := by
  unfold okV inI
  simp
theorem right_in {v : Va} (h : wrongA v = false) (h0 : ¬ v.k = 0) : inI v.n = true := by
  simp only [wrongA, Va.ok, Bool.or_eq_false_iff, Bool.not_eq_false', Bool.and_eq_false_iff, bne_eq_false_iff_eq] at h
  obtain ⟨h1, h2⟩ := h
  have hk : v.k = 2 := by rcases h2 with h | h; · exact h
                          · exact absurd h h0
  rw [hk] at h1
  simp only [okV] at h1
  simp at h1
  simp [inI, h1.1]
/-- A value in a box of its own. -/
structure Bx (W : World) (u : Nat) (k n : Int) (s : ByteArray) : Prop where
  c0 : W.cell? ⟨u, 0, none⟩ = some (.int .i64 k)
  c1 : W.cell? ⟨u, 1, none⟩ = some (.int .i64 n)
  c2 : W.cell? ⟨u, 2, none⟩ = some (.string s)
  f0 : W.frozen? ⟨u, 0, none⟩ = false
  f1 : W.frozen? ⟨u, 1, none⟩ = false
  f2 : W.frozen? ⟨u, 2, none⟩ = false
abbrev vbox (k n : Int) (s : ByteArray) : Obj := .cells #[.int .i64 k, .int .i64 n, .string s] 28
theorem Bx.new (w : World) (k n : Int) (s : ByteArray) : Bx (w.alloc (vbox k n s)) w.heap.size k n s := ⟨by simp, by simp, by simp, by simp, by simp, by simp⟩
theorem Bx.kept {W W' : World} {u : Nat} {k n : Int} {s : ByteArray} (h : Bx W u k n s) (hb : Below W.heap.size W W') : Bx W' u k n s :=
  have hl := ltV_of_cell h.c0
  ⟨cellV_kept hb h.c0, cellV_kept hb h.c1, cellV_kept hb h.c2, (hb.frozen (p := ⟨u, 0, none⟩) hl).trans h.f0, (hb.frozen (p := ⟨u, 1, none⟩) hl).trans h.f1, (hb.frozen (p := ⟨u, 2, none⟩) hl).trans h.f2⟩
theorem below_set3 {n u : Nat} {w W : World} {x y z : Value} (h : Below n w W) (hu : n ≤ u) : Below n w (((W.setCell ⟨u, 0, none⟩ x).setCell ⟨u, 1, none⟩ y).setCell ⟨u, 2, none⟩ z) :=
  ((h.setCell hu _).setCell hu _).setCell hu _
theorem three (w : World) (k n k' n' : Int) (s s' : ByteArray) : Bx (((w.alloc (vbox k n s)).alloc (vbox k' n' s')).alloc (vbox 0 0 ⟨#[]⟩)) w.heap.size k n s ∧ Bx (((w.alloc (vbox k n s)).alloc (vbox k' n' s')).alloc (vbox 0 0 ⟨#[]⟩)) (w.heap.size + 1) k' n' s' ∧
    Bx (((w.alloc (vbox k n s)).alloc (vbox k' n' s')).alloc (vbox 0 0 ⟨#[]⟩)) (w.heap.size + 1 + 1) 0 0 ⟨#[]⟩ ∧ Below w.heap.size w (((w.alloc (vbox k n s)).alloc (vbox k' n' s')).alloc (vbox 0 0 ⟨#[]⟩)) := by
  have h3 := Bx.new ((w.alloc (vbox k n s)).alloc (vbox k' n' s')) 0 0 ⟨#[]⟩
  have h2 := (Bx.new (w.alloc (vbox k n s)) k' n' s').kept (ba _ (vbox 0 0 ⟨#[]⟩))
  have h1 := ((Bx.new w k n s).kept (ba _ (vbox k' n' s'))).kept (ba _ (vbox 0 0 ⟨#[]⟩))
  simp only [World.size_alloc] at h2 h3
  exact ⟨h1, h2, h3, bt (ba2 _ _ _) (ba _ _)⟩
set_option maxHeartbeats 4000000 in
theorem reckonP (P : World → Prop) (hK : ∀ W W', P W → Below W.heap.size W W' → P W') (g : Nat) (f : Int → Int → Option Int) (hg : ∀ (a b : Int) (W : World), P W → inI a = true → inI b = true → Calls Tryz.prog g #[.int .i64 a, .int .i64 b] W fun e W' => e = .returned (fn2 (f a b)) ∧ Below W.heap.size W W')
    (eg : ∀ args w, (callFunc g args).run Tryz.prog w = .ok (.enter g args) w)
    (a b : Va) (w : World) (hP : P w) (ha : a.s.size ≤ 9223372036854775807) (hb' : b.s.size ≤ 9223372036854775807) :
    Calls Tryz.prog 35 #[VV a.k a.n a.s, VV b.k b.n b.s, .func (.func g) #[] #[]] w fun e w' => e = .returned (rk2 (reckA f a b)) ∧ Below w.heap.size w w' := by
  have HG := Lib.hid hg
  have HK := Lib.hid hK
  clear hg hK
  obtain ⟨k, n, s⟩ := a
  obtain ⟨k', n', s'⟩ := b
  simp only at ha hb'
  have H3 := three w k n k' n' s s'
  have HA := Lib.hid H3.1
  have HB := Lib.hid H3.2.1
  have HR := Lib.hid H3.2.2.1
  have HW := Lib.hid H3.2.2.2
  have HP := Lib.hid (HK.out _ _ hP H3.2.2.2)
  clear H3 hP
  cases h1 : wrongA ⟨k, n, s⟩
  · cases h2 : wrongA ⟨k', n', s'⟩
    · have H1 := Lib.hid h1
      have H2 := Lib.hid h2
      have hno : ¬ (wrongA ⟨k, n, s⟩ = true ∨ wrongA ⟨k', n', s'⟩ = true) := by rw [h1, h2]; simp
      by_cases hk : k = 0
      · have Hf := Lib.hid (show reckA f ⟨k, n, s⟩ ⟨k', n', s'⟩ = some nullA by rw [reckA, if_neg hno, if_pos (.inl hk)])
        have hkb : (k == 0) = true := by simpa using hk
        clear h1 h2 hno hk
        go_enter Tryz.func35, Tryz.ntmps35
        go_upto_region 1 with fail
        generalize ((w.alloc (.cells #[.int .i64 k, .int .i64 n, .string s] 28)).alloc (.cells #[.int .i64 k', .int .i64 n', .string s'] 28)).alloc (.cells #[.int .i64 0, .int .i64 0, .string ⟨#[]⟩] 28) = W at HA HB HR HW HP ⊢
        obtain ⟨a0, a1, a2, _, _, _⟩ := HA.out
        obtain ⟨b0, b1, b2, _, _, _⟩ := HB.out
        obtain ⟨r0, r1, r2, f0, f1, f2⟩ := HR.out
        go_wp2_with fail
        refine (isWrong_any _ _ _ _ ha H1.out).mono ?_
        rintro e W ⟨rfl, hb⟩
        have HA := Lib.hid (HA.out.kept hb)
        have HB := Lib.hid (HB.out.kept hb)
        have HR := Lib.hid (HR.out.kept hb)
        have HW := Lib.hid (bt HW.out hb)
        have HP := Lib.hid (HK.out _ _ HP.out hb)
        clear hb a0 a1 a2 b0 b1 b2 r0 r1 r2 f0 f1 f2
        obtain ⟨a0, a1, a2, _, _, _⟩ := HA.out
        obtain ⟨b0, b1, b2, _, _, _⟩ := HB.out
        obtain ⟨r0, r1, r2, f0, f1, f2⟩ := HR.out
        go_wp2_with fail
        refine (isWrong_any _ _ _ _ hb' H2.out).mono ?_
        rintro e W ⟨rfl, hb⟩
        have HA := Lib.hid (HA.out.kept hb)
        have HB := Lib.hid (HB.out.kept hb)
        have HR := Lib.hid (HR.out.kept hb)
        have HW := Lib.hid (bt HW.out hb)
        have HP := Lib.hid (HK.out _ _ HP.out hb)
        clear hb a0 a1 a2 b0 b1 b2 r0 r1 r2 f0 f1 f2
        obtain ⟨a0, a1, a2, _, _, _⟩ := HA.out
        obtain ⟨b0, b1, b2, _, _, _⟩ := HB.out
        obtain ⟨r0, r1, r2, f0, f1, f2⟩ := HR.out
        go_wp2_with fail
        refine (isNull_any _ _ _ _).mono ?_
        rintro e W ⟨rfl, hb⟩
        have HA := Lib.hid (HA.out.kept hb)
        have HB := Lib.hid (HB.out.kept hb)
        have HR := Lib.hid (HR.out.kept hb)
        have HW := Lib.hid (bt HW.out hb)
        have HP := Lib.hid (HK.out _ _ HP.out hb)
        clear hb a0 a1 a2 b0 b1 b2 r0 r1 r2 f0 f1 f2
        obtain ⟨a0, a1, a2, _, _, _⟩ := HA.out
        obtain ⟨b0, b1, b2, _, _, _⟩ := HB.out
        obtain ⟨r0, r1, r2, f0, f1, f2⟩ := HR.out
        go_wp2_with fail
        refine (null_any _).mono ?_
        rintro e W ⟨rfl, hb⟩
        have HA := Lib.hid (HA.out.kept hb)
        have HB := Lib.hid (HB.out.kept hb)
        have HR := Lib.hid (HR.out.kept hb)
        have HW := Lib.hid (bt HW.out hb)
        have HP := Lib.hid (HK.out _ _ HP.out hb)
        clear hb a0 a1 a2 b0 b1 b2 r0 r1 r2 f0 f1 f2
        obtain ⟨a0, a1, a2, _, _, _⟩ := HA.out
        obtain ⟨b0, b1, b2, _, _, _⟩ := HB.out
        obtain ⟨r0, r1, r2, f0, f1, f2⟩ := HR.out
        go_wp2_with fail
        refine bodyPost_ret (v := .tuple #[VV 0 0 ⟨#[]⟩, .int .i64 0]) (by simp [results, Tryz.results35, go_sem, r0, r1, r2]) rfl ⟨?_, below_set3 HW.out (by omega)⟩
        rw [Hf.out]; rfl
      · have hkb : (k == 0) = false := by simpa using hk
        have hi := right_in h1 hk
        by_cases hk' : k' = 0
        · have Hf := Lib.hid (show reckA f ⟨k, n, s⟩ ⟨k', n', s'⟩ = some nullA by rw [reckA, if_neg hno, if_pos (.inr hk')])
          have hkb' : (k' == 0) = true := by simpa using hk'
          clear h1 h2 hno hk hk' hi
          go_enter Tryz.func35, Tryz.ntmps35
          go_upto_region 1 with fail
          generalize ((w.alloc (.cells #[.int .i64 k, .int .i64 n, .string s] 28)).alloc (.cells #[.int .i64 k', .int .i64 n', .string s'] 28)).alloc (.cells #[.int .i64 0, .int .i64 0, .string ⟨#[]⟩] 28) = W at HA HB HR HW HP ⊢
          obtain ⟨a0, a1, a2, _, _, _⟩ := HA.out
          obtain ⟨b0, b1, b2, _, _, _⟩ := HB.out
          obtain ⟨r0, r1, r2, f0, f1, f2⟩ := HR.out
          go_wp2_with fail
          refine (isWrong_any _ _ _ _ ha H1.out).mono ?_
          rintro e W ⟨rfl, hb⟩
          have HA := Lib.hid (HA.out.kept hb)
          have HB := Lib.hid (HB.out.kept hb)
          have HR := Lib.hid (HR.out.kept hb)
          have HW := Lib.hid (bt HW.out hb)
          have HP := Lib.hid (HK.out _ _ HP.out hb)
          clear hb a0 a1 a2 b0 b1 b2 r0 r1 r2 f0 f1 f2
          obtain ⟨a0, a1, a2, _, _, _⟩ := HA.out
          obtain ⟨b0, b1, b2, _, _, _⟩ := HB.out
          obtain ⟨r0, r1, r2, f0, f1, f2⟩ := HR.out
          go_wp2_with fail
          refine (isWrong_any _ _ _ _ hb' H2.out).mono ?_
          rintro e W ⟨rfl, hb⟩
          have HA := Lib.hid (HA.out.kept hb)
          have HB := Lib.hid (HB.out.kept hb)
          have HR := Lib.hid (HR.out.kept hb)
          have HW := Lib.hid (bt HW.out hb)
          have HP := Lib.hid (HK.out _ _ HP.out hb)
          clear hb a0 a1 a2 b0 b1 b2 r0 r1 r2 f0 f1 f2
          obtain ⟨a0, a1, a2, _, _, _⟩ := HA.out
          obtain ⟨b0, b1, b2, _, _, _⟩ := HB.out
          obtain ⟨r0, r1, r2, f0, f1, f2⟩ := HR.out
          go_wp2_with fail
          refine (isNull_any _ _ _ _).mono ?_
          rintro e W ⟨rfl, hb⟩
          have HA := Lib.hid (HA.out.kept hb)
          have HB := Lib.hid (HB.out.kept hb)
          have HR := Lib.hid (HR.out.kept hb)
          have HW := Lib.hid (bt HW.out hb)
          have HP := Lib.hid (HK.out _ _ HP.out hb)
          clear hb a0 a1 a2 b0 b1 b2 r0 r1 r2 f0 f1 f2
          obtain ⟨a0, a1, a2, _, _, _⟩ := HA.out
          obtain ⟨b0, b1, b2, _, _, _⟩ := HB.out
          obtain ⟨r0, r1, r2, f0, f1, f2⟩ := HR.out
          go_wp2_with fail
          refine (isNull_any _ _ _ _).mono ?_
          rintro e W ⟨rfl, hb⟩
          have HA := Lib.hid (HA.out.kept hb)
          have HB := Lib.hid (HB.out.kept hb)
          have HR := Lib.hid (HR.out.kept hb)
          have HW := Lib.hid (bt HW.out hb)
          have HP := Lib.hid (HK.out _ _ HP.out hb)
          clear hb a0 a1 a2 b0 b1 b2 r0 r1 r2 f0 f1 f2
          obtain ⟨a0, a1, a2, _, _, _⟩ := HA.out
          obtain ⟨b0, b1, b2, _, _, _⟩ := HB.out
          obtain ⟨r0, r1, r2, f0, f1, f2⟩ := HR.out
          go_wp2_with fail
          refine (null_any _).mono ?_
          rintro e W ⟨rfl, hb⟩
          have HA := Lib.hid (HA.out.kept hb)
          have HB := Lib.hid (HB.out.kept hb)
          have HR := Lib.hid (HR.out.kept hb)
          have HW := Lib.hid (bt HW.out hb)
          have HP := Lib.hid (HK.out _ _ HP.out hb)
          clear hb a0 a1 a2 b0 b1 b2 r0 r1 r2 f0 f1 f2
          obtain ⟨a0, a1, a2, _, _, _⟩ := HA.out
          obtain ⟨b0, b1, b2, _, _, _⟩ := HB.out
          obtain ⟨r0, r1, r2, f0, f1, f2⟩ := HR.out
          go_wp2_with fail
          refine bodyPost_ret (v := .tuple #[VV 0 0 ⟨#[]⟩, .int .i64 0]) (by simp [results, Tryz.results35, go_sem, r0, r1, r2]) rfl ⟨?_, below_set3 HW.out (by omega)⟩
          rw [Hf.out]; rfl
        · have hkb' : (k' == 0) = false := by simpa using hk'
          have hi' := right_in h2 hk'
          have hr : reckA f ⟨k, n, s⟩ ⟨k', n', s'⟩ = fitI (f n n') := by rw [reckA, if_neg hno, if_neg (by rintro (h | h); exact hk h; exact hk' h)]
          have HG' := fun W hW => HG.out n n' W hW hi hi'
          cases hf : f n n' with
          | none =>
            rw [hf] at HG'
            have HF := Lib.hid (show ∀ W, P W → Calls Tryz.prog g #[.int .i64 n, .int .i64 n'] W fun e W' => e = .returned (.tuple #[.int .i64 0, .bool false]) ∧ Below W.heap.size W W' from HG')
            have Hf := Lib.hid (show reckA f ⟨k, n, s⟩ ⟨k', n', s'⟩ = none by rw [hr, hf]; rfl)
            clear h1 h2 hno hk hk' hi hi' hr HG' hf
            go_enter Tryz.func35, Tryz.ntmps35
            go_upto_region 1 with fail
            generalize ((w.alloc (.cells #[.int .i64 k, .int .i64 n, .string s] 28)).alloc (.cells #[.int .i64 k', .int .i64 n', .string s'] 28)).alloc (.cells #[.int .i64 0, .int .i64 0, .string ⟨#[]⟩] 28) = W at HA HB HR HW HP ⊢
            obtain ⟨a0, a1, a2, _, _, _⟩ := HA.out
            obtain ⟨b0, b1, b2, _, _, _⟩ := HB.out
            obtain ⟨r0, r1, r2, f0, f1, f2⟩ := HR.out
            go_wp2_with fail
            refine (isWrong_any _ _ _ _ ha H1.out).mono ?_
            rintro e W ⟨rfl, hb⟩
            have HA := Lib.hid (HA.out.kept hb)
            have HB := Lib.hid (HB.out.kept hb)
            have HR := Lib.hid (HR.out.kept hb)
            have HW := Lib.hid (bt HW.out hb)
            have HP := Lib.hid (HK.out _ _ HP.out hb)
            clear hb a0 a1 a2 b0 b1 b2 r0 r1 r2 f0 f1 f2
            obtain ⟨a0, a1, a2, _, _, _⟩ := HA.out
            obtain ⟨b0, b1, b2, _, _, _⟩ := HB.out
            obtain ⟨r0, r1, r2, f0, f1, f2⟩ := HR.out
            go_wp2_with fail
            refine (isWrong_any _ _ _ _ hb' H2.out).mono ?_
            rintro e W ⟨rfl, hb⟩
            have HA := Lib.hid (HA.out.kept hb)
            have HB := Lib.hid (HB.out.kept hb)
            have HR := Lib.hid (HR.out.kept hb)
            have HW := Lib.hid (bt HW.out hb)
            have HP := Lib.hid (HK.out _ _ HP.out hb)
            clear hb a0 a1 a2 b0 b1 b2 r0 r1 r2 f0 f1 f2
            obtain ⟨a0, a1, a2, _, _, _⟩ := HA.out
            obtain ⟨b0, b1, b2, _, _, _⟩ := HB.out
            obtain ⟨r0, r1, r2, f0, f1, f2⟩ := HR.out
            go_wp2_with fail
            refine (isNull_any _ _ _ _).mono ?_
            rintro e W ⟨rfl, hb⟩
            have HA := Lib.hid (HA.out.kept hb)
            have HB := Lib.hid (HB.out.kept hb)
            have HR := Lib.hid (HR.out.kept hb)
            have HW := Lib.hid (bt HW.out hb)
            have HP := Lib.hid (HK.out _ _ HP.out hb)
            clear hb a0 a1 a2 b0 b1 b2 r0 r1 r2 f0 f1 f2
            obtain ⟨a0, a1, a2, _, _, _⟩ := HA.out
            obtain ⟨b0, b1, b2, _, _, _⟩ := HB.out
            obtain ⟨r0, r1, r2, f0, f1, f2⟩ := HR.out
            go_wp2_with fail
            refine (isNull_any _ _ _ _).mono ?_
            rintro e W ⟨rfl, hb⟩
            have HA := Lib.hid (HA.out.kept hb)
            have HB := Lib.hid (HB.out.kept hb)
            have HR := Lib.hid (HR.out.kept hb)
            have HW := Lib.hid (bt HW.out hb)
            have HP := Lib.hid (HK.out _ _ HP.out hb)
            clear hb a0 a1 a2 b0 b1 b2 r0 r1 r2 f0 f1 f2
            obtain ⟨a0, a1, a2, _, _, _⟩ := HA.out
            obtain ⟨b0, b1, b2, _, _, _⟩ := HB.out
            obtain ⟨r0, r1, r2, f0, f1, f2⟩ := HR.out
            go_wp2_with fail
            refine (HF.out _ HP.out).mono ?_
            rintro e W ⟨rfl, hb⟩
            have HA := Lib.hid (HA.out.kept hb)
            have HB := Lib.hid (HB.out.kept hb)
            have HR := Lib.hid (HR.out.kept hb)
            have HW := Lib.hid (bt HW.out hb)
            have HP := Lib.hid (HK.out _ _ HP.out hb)
            clear hb a0 a1 a2 b0 b1 b2 r0 r1 r2 f0 f1 f2
            obtain ⟨a0, a1, a2, _, _, _⟩ := HA.out
            obtain ⟨b0, b1, b2, _, _, _⟩ := HB.out
            obtain ⟨r0, r1, r2, f0, f1, f2⟩ := HR.out
            go_wp2_with fail
            refine (int_any _ _).mono ?_
            rintro e W ⟨rfl, hb⟩
            have HR := Lib.hid (HR.out.kept hb)
            have HW := Lib.hid (bt HW.out hb)
            clear hb a0 a1 a2 b0 b1 b2 r0 r1 r2 f0 f1 f2
            obtain ⟨r0, r1, r2, f0, f1, f2⟩ := HR.out.kept (ba W (vbox 2 0 ⟨#[]⟩))
            go_wp2_with fail
            refine bodyPost_ret (v := .tuple #[VV 0 0 ⟨#[]⟩, .int .i64 160]) (by simp [results, Tryz.results35, go_sem, r0, r1, r2]) rfl ⟨?_, below_set3 (bt HW.out (ba _ _)) (by omega)⟩
            rw [Hf.out]; rfl
          | some m =>
            rw [hf] at HG'
            have HF := Lib.hid (show ∀ W, P W → Calls Tryz.prog g #[.int .i64 n, .int .i64 n'] W fun e W' => e = .returned (.tuple #[.int .i64 m, .bool true]) ∧ Below W.heap.size W W' from HG')
            have HC := check_any 2 m ⟨#[]⟩
            rw [ok_intA] at HC
            cases hm : inI m
            · have Hf := Lib.hid (show reckA f ⟨k, n, s⟩ ⟨k', n', s'⟩ = none by rw [hr, hf, fitI, if_neg (by rw [hm]; decide)])
              rw [hm] at HC
              have HC := Lib.hid HC
              clear h1 h2 hno hk hk' hi hi' hr HG' hf hm
              go_enter Tryz.func35, Tryz.ntmps35
              go_upto_region 1 with fail
              generalize ((w.alloc (.cells #[.int .i64 k, .int .i64 n, .string s] 28)).alloc (.cells #[.int .i64 k', .int .i64 n', .string s'] 28)).alloc (.cells #[.int .i64 0, .int .i64 0, .string ⟨#[]⟩] 28) = W at HA HB HR HW HP ⊢
              obtain ⟨a0, a1, a2, _, _, _⟩ := HA.out
              obtain ⟨b0, b1, b2, _, _, _⟩ := HB.out
              obtain ⟨r0, r1, r2, f0, f1, f2⟩ := HR.out
              go_wp2_with fail
              refine (isWrong_any _ _ _ _ ha H1.out).mono ?_
              rintro e W ⟨rfl, hb⟩
              have HA := Lib.hid (HA.out.kept hb)
              have HB := Lib.hid (HB.out.kept hb)
              have HR := Lib.hid (HR.out.kept hb)
              have HW := Lib.hid (bt HW.out hb)
              have HP := Lib.hid (HK.out _ _ HP.out hb)
              clear hb a0 a1 a2 b0 b1 b2 r0 r1 r2 f0 f1 f2
              obtain ⟨a0, a1, a2, _, _, _⟩ := HA.out
              obtain ⟨b0, b1, b2, _, _, _⟩ := HB.out
              obtain ⟨r0, r1, r2, f0, f1, f2⟩ := HR.out
              go_wp2_with fail
              refine (isWrong_any _ _ _ _ hb' H2.out).mono ?_
              rintro e W ⟨rfl, hb⟩
              have HA := Lib.hid (HA.out.kept hb)
              have HB := Lib.hid (HB.out.kept hb)
              have HR := Lib.hid (HR.out.kept hb)
              have HW := Lib.hid (bt HW.out hb)
              have HP := Lib.hid (HK.out _ _ HP.out hb)
              clear hb a0 a1 a2 b0 b1 b2 r0 r1 r2 f0 f1 f2
              obtain ⟨a0, a1, a2, _, _, _⟩ := HA.out
              obtain ⟨b0, b1, b2, _, _, _⟩ := HB.out
              obtain ⟨r0, r1, r2, f0, f1, f2⟩ := HR.out
              go_wp2_with fail
              refine (isNull_any _ _ _ _).mono ?_
              rintro e W ⟨rfl, hb⟩
              have HA := Lib.hid (HA.out.kept hb)
              have HB := Lib.hid (HB.out.kept hb)
              have HR := Lib.hid (HR.out.kept hb)
              have HW := Lib.hid (bt HW.out hb)
              have HP := Lib.hid (HK.out _ _ HP.out hb)
              clear hb a0 a1 a2 b0 b1 b2 r0 r1 r2 f0 f1 f2
              obtain ⟨a0, a1, a2, _, _, _⟩ := HA.out
              obtain ⟨b0, b1, b2, _, _, _⟩ := HB.out
              obtain ⟨r0, r1, r2, f0, f1, f2⟩ := HR.out
              go_wp2_with fail
              refine (isNull_any _ _ _ _).mono ?_
              rintro e W ⟨rfl, hb⟩
              have HA := Lib.hid (HA.out.kept hb)
              have HB := Lib.hid (HB.out.kept hb)
              have HR := Lib.hid (HR.out.kept hb)
              have HW := Lib.hid (bt HW.out hb)
              have HP := Lib.hid (HK.out _ _ HP.out hb)
              clear hb a0 a1 a2 b0 b1 b2 r0 r1 r2 f0 f1 f2
              obtain ⟨a0, a1, a2, _, _, _⟩ := HA.out
              obtain ⟨b0, b1, b2, _, _, _⟩ := HB.out
              obtain ⟨r0, r1, r2, f0, f1, f2⟩ := HR.out
              go_wp2_with fail
              refine (HF.out _ HP.out).mono ?_
              rintro e W ⟨rfl, hb⟩
              have HA := Lib.hid (HA.out.kept hb)
              have HB := Lib.hid (HB.out.kept hb)
              have HR := Lib.hid (HR.out.kept hb)
              have HW := Lib.hid (bt HW.out hb)
              have HP := Lib.hid (HK.out _ _ HP.out hb)
              clear hb a0 a1 a2 b0 b1 b2 r0 r1 r2 f0 f1 f2
              obtain ⟨a0, a1, a2, _, _, _⟩ := HA.out
              obtain ⟨b0, b1, b2, _, _, _⟩ := HB.out
              obtain ⟨r0, r1, r2, f0, f1, f2⟩ := HR.out
              go_wp2_with fail
              refine (int_any _ _).mono ?_
              rintro e W ⟨rfl, hb⟩
              have HA := Lib.hid (HA.out.kept hb)
              have HB := Lib.hid (HB.out.kept hb)
              have HR := Lib.hid (HR.out.kept hb)
              have HW := Lib.hid (bt HW.out hb)
              have HP := Lib.hid (HK.out _ _ HP.out hb)
              clear hb a0 a1 a2 b0 b1 b2 r0 r1 r2 f0 f1 f2
              obtain ⟨a0, a1, a2, _, _, _⟩ := HA.out
              obtain ⟨b0, b1, b2, _, _, _⟩ := HB.out
              obtain ⟨r0, r1, r2, f0, f1, f2⟩ := HR.out
              go_wp2_with fail
              refine (HC.out _ (by decide)).mono ?_
              rintro e W4 ⟨rfl, hb⟩
              have hb2 := bt (ba _ _) hb
              have HR := Lib.hid (HR.out.kept hb2)
              have HW := Lib.hid (bt HW.out hb2)
              obtain ⟨q0, q1, q2⟩ := box1 hb
              clear hb hb2 a0 a1 a2 b0 b1 b2 r0 r1 r2 f0 f1 f2
              obtain ⟨r0, r1, r2, f0, f1, f2⟩ := HR.out
              go_wp2_with fail
              refine bodyPost_ret (v := .tuple #[VV 0 0 ⟨#[]⟩, .int .i64 160]) (by simp [results, Tryz.results35, go_sem, r0, r1, r2]) rfl ⟨?_, below_set3 HW.out (by omega)⟩
              rw [Hf.out]; rfl
            · have Hf := Lib.hid (show reckA f ⟨k, n, s⟩ ⟨k', n', s'⟩ = some (intA m) by rw [hr, hf, fitI, if_pos hm])
              rw [hm] at HC
              have HC := Lib.hid HC
              clear h1 h2 hno hk hk' hi hi' hr HG' hf hm
              go_enter Tryz.func35, Tryz.ntmps35
              go_upto_region 1 with fail
              generalize ((w.alloc (.cells #[.int .i64 k, .int .i64 n, .string s] 28)).alloc (.cells #[.int .i64 k', .int .i64 n', .string s'] 28)).alloc (.cells #[.int .i64 0, .int .i64 0, .string ⟨#[]⟩] 28) = W at HA HB HR HW HP ⊢
              obtain ⟨a0, a1, a2, _, _, _⟩ := HA.out
              obtain ⟨b0, b1, b2, _, _, _⟩ := HB.out
              obtain ⟨r0, r1, r2, f0, f1, f2⟩ := HR.out
              go_wp2_with fail
              refine (isWrong_any _ _ _ _ ha H1.out).mono ?_
              rintro e W ⟨rfl, hb⟩
              have HA := Lib.hid (HA.out.kept hb)
              have HB := Lib.hid (HB.out.kept hb)
              have HR := Lib.hid (HR.out.kept hb)
              have HW := Lib.hid (bt HW.out hb)
              have HP := Lib.hid (HK.out _ _ HP.out hb)
              clear hb a0 a1 a2 b0 b1 b2 r0 r1 r2 f0 f1 f2
              obtain ⟨a0, a1, a2, _, _, _⟩ := HA.out
              obtain ⟨b0, b1, b2, _, _, _⟩ := HB.out
              obtain ⟨r0, r1, r2, f0, f1, f2⟩ := HR.out
              go_wp2_with fail
              refine (isWrong_any _ _ _ _ hb' H2.out).mono ?_
              rintro e W ⟨rfl, hb⟩
              have HA := Lib.hid (HA.out.kept hb)
              have HB := Lib.hid (HB.out.kept hb)
              have HR := Lib.hid (HR.out.kept hb)
              have HW := Lib.hid (bt HW.out hb)
              have HP := Lib.hid (HK.out _ _ HP.out hb)
              clear hb a0 a1 a2 b0 b1 b2 r0 r1 r2 f0 f1 f2
              obtain ⟨a0, a1, a2, _, _, _⟩ := HA.out
              obtain ⟨b0, b1, b2, _, _, _⟩ := HB.out
              obtain ⟨r0, r1, r2, f0, f1, f2⟩ := HR.out
              go_wp2_with fail
              refine (isNull_any _ _ _ _).mono ?_
              rintro e W ⟨rfl, hb⟩
              have HA := Lib.hid (HA.out.kept hb)
              have HB := Lib.hid (HB.out.kept hb)
              have HR := Lib.hid (HR.out.kept hb)
              have HW := Lib.hid (bt HW.out hb)
              have HP := Lib.hid (HK.out _ _ HP.out hb)
              clear hb a0 a1 a2 b0 b1 b2 r0 r1 r2 f0 f1 f2
              obtain ⟨a0, a1, a2, _, _, _⟩ := HA.out
              obtain ⟨b0, b1, b2, _, _, _⟩ := HB.out
              obtain ⟨r0, r1, r2, f0, f1, f2⟩ := HR.out
              go_wp2_with fail
              refine (isNull_any _ _ _ _).mono ?_
              rintro e W ⟨rfl, hb⟩
              have HA := Lib.hid (HA.out.kept hb)
              have HB := Lib.hid (HB.out.kept hb)
              have HR := Lib.hid (HR.out.kept hb)
              have HW := Lib.hid (bt HW.out hb)
              have HP := Lib.hid (HK.out _ _ HP.out hb)
              clear hb a0 a1 a2 b0 b1 b2 r0 r1 r2 f0 f1 f2
              obtain ⟨a0, a1, a2, _, _, _⟩ := HA.out
              obtain ⟨b0, b1, b2, _, _, _⟩ := HB.out
              obtain ⟨r0, r1, r2, f0, f1, f2⟩ := HR.out
              go_wp2_with fail
              refine (HF.out _ HP.out).mono ?_
              rintro e W ⟨rfl, hb⟩
              have HA := Lib.hid (HA.out.kept hb)
              have HB := Lib.hid (HB.out.kept hb)
              have HR := Lib.hid (HR.out.kept hb)
              have HW := Lib.hid (bt HW.out hb)
              have HP := Lib.hid (HK.out _ _ HP.out hb)
              clear hb a0 a1 a2 b0 b1 b2 r0 r1 r2 f0 f1 f2
              obtain ⟨a0, a1, a2, _, _, _⟩ := HA.out
              obtain ⟨b0, b1, b2, _, _, _⟩ := HB.out
              obtain ⟨r0, r1, r2, f0, f1, f2⟩ := HR.out
              go_wp2_with fail
              refine (int_any _ _).mono ?_
              rintro e W ⟨rfl, hb⟩
              have HA := Lib.hid (HA.out.kept hb)
              have HB := Lib.hid (HB.out.kept hb)
              have HR := Lib.hid (HR.out.kept hb)
              have HW := Lib.hid (bt HW.out hb)
              have HP := Lib.hid (HK.out _ _ HP.out hb)
              clear hb a0 a1 a2 b0 b1 b2 r0 r1 r2 f0 f1 f2
              obtain ⟨a0, a1, a2, _, _, _⟩ := HA.out
              obtain ⟨b0, b1, b2, _, _, _⟩ := HB.out
              obtain ⟨r0, r1, r2, f0, f1, f2⟩ := HR.out
              go_wp2_with fail
              refine (HC.out _ (by decide)).mono ?_
              rintro e W4 ⟨rfl, hb⟩
              have hb2 := bt (ba _ _) hb
              have HR := Lib.hid (HR.out.kept hb2)
              have HW := Lib.hid (bt HW.out hb2)
              obtain ⟨q0, q1, q2⟩ := box1 hb
              clear hb hb2 a0 a1 a2 b0 b1 b2 r0 r1 r2 f0 f1 f2
              obtain ⟨r0, r1, r2, f0, f1, f2⟩ := HR.out
              go_wp2_with fail
              refine bodyPost_ret (v := .tuple #[VV 2 m ⟨#[]⟩, .int .i64 0]) (by simp [results, Tryz.results35, go_sem, r0, r1, r2]) rfl ⟨?_, below_set3 HW.out (by omega)⟩
              rw [Hf.out]; rfl
    · have Hf := Lib.hid (show reckA f ⟨k, n, s⟩ ⟨k', n', s'⟩ = none by rw [reckA, if_pos (.inr h2)])
      have H1 := Lib.hid h1
      have H2 := Lib.hid h2
      clear h1 h2
      go_enter Tryz.func35, Tryz.ntmps35
      go_upto_region 1 with fail
      generalize ((w.alloc (.cells #[.int .i64 k, .int .i64 n, .string s] 28)).alloc (.cells #[.int .i64 k', .int .i64 n', .string s'] 28)).alloc (.cells #[.int .i64 0, .int .i64 0, .string ⟨#[]⟩] 28) = W at HA HB HR HW HP ⊢
      obtain ⟨a0, a1, a2, _, _, _⟩ := HA.out
      obtain ⟨b0, b1, b2, _, _, _⟩ := HB.out
      obtain ⟨r0, r1, r2, f0, f1, f2⟩ := HR.out
      go_wp2_with fail
      refine (isWrong_any _ _ _ _ ha H1.out).mono ?_
      rintro e W ⟨rfl, hb⟩
      have HA := Lib.hid (HA.out.kept hb)
      have HB := Lib.hid (HB.out.kept hb)
      have HR := Lib.hid (HR.out.kept hb)
      have HW := Lib.hid (bt HW.out hb)
      have HP := Lib.hid (HK.out _ _ HP.out hb)
      clear hb a0 a1 a2 b0 b1 b2 r0 r1 r2 f0 f1 f2
      obtain ⟨a0, a1, a2, _, _, _⟩ := HA.out
      obtain ⟨b0, b1, b2, _, _, _⟩ := HB.out
      obtain ⟨r0, r1, r2, f0, f1, f2⟩ := HR.out
      go_wp2_with fail
      refine (isWrong_any _ _ _ _ hb' H2.out).mono ?_
      rintro e W ⟨rfl, hb⟩
      have HA := Lib.hid (HA.out.kept hb)
      have HB := Lib.hid (HB.out.kept hb)
      have HR := Lib.hid (HR.out.kept hb)
      have HW := Lib.hid (bt HW.out hb)
      have HP := Lib.hid (HK.out _ _ HP.out hb)
      clear hb a0 a1 a2 b0 b1 b2 r0 r1 r2 f0 f1 f2
      obtain ⟨a0, a1, a2, _, _, _⟩ := HA.out
      obtain ⟨b0, b1, b2, _, _, _⟩ := HB.out
      obtain ⟨r0, r1, r2, f0, f1, f2⟩ := HR.out
      go_wp2_with fail
      refine bodyPost_ret (v := .tuple #[VV 0 0 ⟨#[]⟩, .int .i64 160]) (by simp [results, Tryz.results35, go_sem, r0, r1, r2]) rfl ⟨?_, below_set3 HW.out (by omega)⟩
      rw [Hf.out]; rfl
  · have Hf := Lib.hid (show reckA f ⟨k, n, s⟩ ⟨k', n', s'⟩ = none by rw [reckA, if_pos (.inl h1)])
    have H1 := Lib.hid h1
    clear h1
    go_enter Tryz.func35, Tryz.ntmps35
    go_upto_region 1 with fail
    generalize ((w.alloc (.cells #[.int .i64 k, .int .i64 n, .string s] 28)).alloc (.cells #[.int .i64 k', .int .i64 n', .string s'] 28)).alloc (.cells #[.int .i64 0, .int .i64 0, .string ⟨#[]⟩] 28) = W at HA HB HR HW HP ⊢
    obtain ⟨a0, a1, a2, _, _, _⟩ := HA.out
    obtain ⟨b0, b1, b2, _, _, _⟩ := HB.out
    obtain ⟨r0, r1, r2, f0, f1, f2⟩ := HR.out
    go_wp2_with fail
    refine (isWrong_any _ _ _ _ ha H1.out).mono ?_
    rintro e W ⟨rfl, hb⟩
    have HA := Lib.hid (HA.out.kept hb)
    have HB := Lib.hid (HB.out.kept hb)
    have HR := Lib.hid (HR.out.kept hb)
    have HW := Lib.hid (bt HW.out hb)
    have HP := Lib.hid (HK.out _ _ HP.out hb)
    clear hb a0 a1 a2 b0 b1 b2 r0 r1 r2 f0 f1 f2
    obtain ⟨a0, a1, a2, _, _, _⟩ := HA.out
    obtain ⟨b0, b1, b2, _, _, _⟩ := HB.out
    obtain ⟨r0, r1, r2, f0, f1, f2⟩ := HR.out
    go_wp2_with fail
    refine bodyPost_ret (v := .tuple #[VV 0 0 ⟨#[]⟩, .int .i64 160]) (by simp [results, Tryz.results35, go_sem, r0, r1, r2]) rfl ⟨?_, below_set3 HW.out (by omega)⟩
    rw [Hf.out]; rfl
theorem reckon_any (g : Nat) (f : Int → Int → Option Int) (hg : ∀ (a b : Int) (W : World), inI a = true → inI b = true → Calls Tryz.prog g #[.int .i64 a, .int .i64 b] W fun e W' => e = .returned (fn2 (f a b)) ∧ Below W.heap.size W W')
    (eg : ∀ args w, (callFunc g args).run Tryz.prog w = .ok (.enter g args) w)
    (a b : Va) (w : World) (ha : a.s.size ≤ 9223372036854775807) (hb : b.s.size ≤ 9223372036854775807) :
    Calls Tryz.prog 35 #[VV a.k a.n a.s, VV b.k b.n b.s, .func (.func g) #[] #[]] w fun e w' => e = .returned (rk2 (reckA f a b)) ∧ Below w.heap.size w w' :=
  reckonP (fun _ => True) (fun _ _ _ _ => trivial) g f (fun a b W _ => hg a b W) eg a b w trivial ha hb
end Go.Proofs.YtpokpiphnggfpaaGreatDoor
end
