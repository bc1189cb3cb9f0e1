/-
  The document's one, walk, Check, Size.
-/
import Derived.Test.YteckhaicodmakaaGreatDoorEx0
import Derived.Test.YteckhaicodmakaaGreatDoorExf
import Derived.Deep.RegionHeld3
import Derived.Deep.RegionWith
namespace Go.Proofs.YteckhaicodmakaaGreatDoor
open Go.RowKit Go.Shelf

theorem one_any (h : Hd) (A : Option Addr) (len cap : Nat) (ag : Bool) (w : World) (hs : Sm h) (hl : len ≤ 9223372036854775807) :
    Calls Tryz.prog 55 #[XV h A len cap, .bool ag] w fun e w' => e = .returned (.bool (oneB h len ag)) ∧ Below w.heap.size w w' := by
  by_cases h1 : h.k = 1
  · exact one_1 h A len cap ag w hs h1
  by_cases h2 : h.k = 2
  · exact one_2 h A len cap ag w hs h2
  by_cases h3 : h.k = 3
  · exact one_3 h A len cap ag w hs hl h3
  by_cases h4 : h.k = 4
  · exact one_4 h A len cap ag w hs hl h4
  have HF := Lib.hid (show oneB h len ag = false by unfold oneB fitsB; rw [if_neg h1, if_neg h2, if_neg h3, if_neg h4, Bool.and_false])
  obtain ⟨k, n, vk, vn, vs, tab, col⟩ := h
  simp only at h1 h2 h3 h4
  go_enter Tryz.func55, Tryz.ntmps55
  go_wp2_with fail
  go_ret
  exact ⟨ret_bool HF.out.symm, ba2 w _ _⟩
/-- What walk tells. -/
def walkV (x : Ex) (d : Nat) (ag : Bool) : Value := if goodB x d ag = true ∧ cnt x ≤ 512 then .tuple #[.int .i64 (cnt x), .bool true] else .tuple #[.int .i64 0, .bool false]
theorem goodB_one (h : Hd) (l : List Ex) (d : Nat) (ag : Bool) : goodB (.mk h l) d ag = (decide (d ≤ 32) && oneB h l.length ag && goodBs l (d + 1) (ag || h.k == 4)) := by
  rw [goodB_mk, oneB]
  cases decide (d ≤ 32) <;> cases (h.k == 4 && ag) <;> cases fitsB h l.length <;> rfl
theorem goodBs_at {l : List Ex} {j : Nat} {x : Ex} {d : Nat} {ag : Bool} (h : l[j]? = some x) (hg : goodB x d ag = false) : goodBs l d ag = false := by
  refine goodBs_no (k := j + 1) ?_
  rw [goodBs_take h, hg, Bool.and_false]
set_option maxRecDepth 100000 in
set_option maxHeartbeats 16000000 in
theorem walk_n : ∀ (N : Nat) (h : Hd) (l : List Ex), cnt (.mk h l) ≤ N → N ≤ 1000000 → AllSm (.mk h l) → ∀ (w : World) (A : Option Addr) (cap d : Nat) (ag : Bool), XsAt w.heap.size w l A → d ≤ 33 →
    Calls Tryz.prog 40 #[XV h A l.length cap, .int .i64 d, .bool ag] w fun e w' => e = .returned (walkV (.mk h l) d ag) ∧ Below w.heap.size w w' := by
  intro N
  induction N with
  | zero => intro h l hc; have := cnt_pos (.mk h l); omega
  | succ N ih =>
    intro h l hc hN hsm w A cap d ag hX hd
    have HCn := Lib.hid (cnt_mk h l)
    rw [cnt_mk] at hc
    rw [AllSm] at hsm
    have hlen := cntL_len l
    have hba := ba w (xbox h A l.length cap)
    have HX0 := Lib.hid (MapKept.heap_alloc w (xbox h A l.length cap)).1
    have HBa := Lib.hid hba
    have HXl := Lib.hid hX
    have HSm := Lib.hid hsm.2
    have HI := Lib.hid (show ∀ (h' : Hd) (l' : List Ex), cnt (.mk h' l') ≤ N → AllSm (.mk h' l') → ∀ (w1 : World) (A' : Option Addr) (cap' : Nat) (ag' : Bool), XsAt w1.heap.size w1 l' A' → d ≤ 32 →
        Calls Tryz.prog 40 #[XV h' A' l'.length cap', .int .i64 ((d : Int) + 1), .bool ag'] w1 fun e w' => e = .returned (walkV (.mk h' l') (d + 1) ag') ∧ Below w1.heap.size w1 w' from fun h' l' hc' hs' w1 A' cap' ag' hx hd' => ih h' l' hc' (by omega) hs' w1 A' cap' (d + 1) ag' hx (by omega))
    have HG := Lib.hid (goodB_one h l d ag)
    have HO := Lib.hid (fun w1 => one_any h A l.length cap ag w1 hsm.1 (by omega))
    obtain ⟨bo, hbo⟩ : ∃ b, oneB h l.length ag = b := ⟨_, rfl⟩
    rw [hbo] at HO HG
    have hl6 : l.length ≤ 1000000 := by omega
    clear hX ih hba hbo hsm
    obtain ⟨W0, hW0⟩ : ∃ W0, w.alloc (xbox h A l.length cap) = W0 := ⟨_, rfl⟩
    have HW0 := Lib.hid hW0
    have hsz0 : W0.heap.size = w.heap.size + 1 := by rw [← hW0, World.size_alloc]
    clear hW0
    by_cases hd32 : 32 < d
    · have y : (32 : Int) < (d : Int) := by omega
      have HV := Lib.hid (show walkV (.mk h l) d ag = .tuple #[.int .i64 0, .bool false] by rw [walkV, HG.out, decide_eq_false (by omega)]; simp)
      go_enter Tryz.func40, Tryz.ntmps40
      go_wp2_with fail
      refine bodyPost_ret (v := .tuple #[.int .i64 0, .bool false]) (by simp [results, Tryz.results40, go_sem]) rfl ⟨by rw [HV.out], HBa.out⟩
    · have y : ¬ (32 : Int) < (d : Int) := by omega
      cases bo
      · have HV := Lib.hid (show walkV (.mk h l) d ag = .tuple #[.int .i64 0, .bool false] by rw [walkV, HG.out]; simp)
        go_enter Tryz.func40, Tryz.ntmps40
        go_wp2_with fail
        refine (HO.out _).mono ?_
        rintro e w1 ⟨rfl, hb1⟩
        have HB1 := Lib.hid (bt HBa.out hb1)
        clear hb1
        go_wp2_with fail
        refine bodyPost_ret (v := .tuple #[.int .i64 0, .bool false]) (by simp [results, Tryz.results40, go_sem]) rfl ⟨by rw [HV.out], HB1.out⟩
      · have HGd := Lib.hid (show goodB (.mk h l) d ag = goodBs l (d + 1) (ag || h.k == 4) by rw [HG.out, decide_eq_true (by omega)]; rfl)
        obtain ⟨b4, hb4⟩ : ∃ b, (h.k == 4) = b := ⟨_, rfl⟩
        rw [hb4] at HGd
        go_enter Tryz.func40, Tryz.ntmps40
        go_wp2_with fail
        refine (HO.out _).mono ?_
        rintro e w1 ⟨rfl, hb1⟩
        have HB1 := Lib.hid (bt HBa.out hb1)
        have HX1 := Lib.hid ((hb1.block w.heap.size (by rw [World.size_alloc]; omega)).trans HX0.out)
        have hsz1 : w.heap.size + 1 ≤ w1.heap.size := by have := hb1.size; rw [World.size_alloc] at this; exact this
        clear hb1
        go_wp2_with fail
        go_loopw [9, 8, 10, 11] (fun i n _ _ W => ∃ j : Nat, j ≤ l.length ∧ i = .int .i64 j ∧ n = .int .i64 (1 + cntL (l.take j) : Nat) ∧ Hid (Below w1.heap.size w1 W) ∧ Hid (goodBs (l.take j) (d + 1) (ag || b4) = true) ∧ 1 + cntL (l.take j) ≤ 512) (fun i _ _ _ _ => l.length - (intOf i).toNat)
        case atStart => exact ⟨0, Nat.zero_le _, rfl, by simp [cntL], Lib.hid (Below.refl _ _), Lib.hid (by simp [goodBs]), by simp [cntL]⟩
        case round =>
          obtain ⟨j, hj, rfl, rfl, HW, HS, hcj⟩ := hrel
          obtain ⟨⟨p0, _, _, _, _, _, _, p7⟩, _⟩ := cell8 ((HW.out.block w.heap.size (by omega)).trans HX1.out)
          have hbw := bt HB1.out HW.out
          have hsw : w.heap.size < wr.heap.size := by have := HW.out.size; omega
          by_cases hkl : j < l.length
          · obtain ⟨h', l', g, o, A', cap', hx, rfl, hg, ⟨a0, a1, a2, a3, a4, a5, a6, a7⟩, hle, hx2⟩ := kid_at HXl.out hbw hkl
            have hcm := cntL_mem hx
            have HT := Lib.hid (goodBs_take hx (d + 1) (ag || b4))
            have HCt := Lib.hid (cntL_take hx)
            have HC := Lib.hid (fun w2 (hb2 : Below wr.heap.size wr w2) => HI.out h' l' (by omega) (HSm.out.at hx) w2 A' cap' (ag || b4) (XsAt.next hx2 hb2) (by omega))
            have HNo := Lib.hid (fun hf => goodBs_at (l := l) (d := d + 1) (ag := (ag || b4)) hx hf)
            have HBw := Lib.hid hbw
            have hBd := Below.drew (Below.refl wr.heap.size wr)
            have hct := cntL_take_le l (j + 1)
            rw [HCt.out] at hct
            clear hx hx2 hbw
            have hwd : IntKind.i64.wrap ((d : Int) + 1) = (d : Int) + 1 := by rw [IntKind.wrap_i64]; omega
            have hwj : IntKind.i64.wrap (j : Int) = (j : Int) := by rw [IntKind.wrap_i64]; omega
            obtain ⟨m, hm⟩ : ∃ m, cnt (.mk h' l') = m := ⟨_, rfl⟩
            obtain ⟨t, ht⟩ : ∃ t, cntL (l.take j) = t := ⟨_, rfl⟩
            rw [ht] at HCt hct hcj ⊢
            rw [hm] at HCt hct hcm
            have HM := Lib.hid hm
            clear hm ht
            obtain ⟨kk, ok, hkv⟩ : ∃ (kk : Nat) (ok : Bool), walkV (.mk h' l') (d + 1) (ag || b4) = .tuple #[.int .i64 kk, .bool ok] ∧ ((goodB (.mk h' l') (d + 1) (ag || b4) = true ∧ m ≤ 512 ∧ kk = m ∧ ok = true) ∨ (¬ (goodB (.mk h' l') (d + 1) (ag || b4) = true ∧ m ≤ 512) ∧ kk = 0 ∧ ok = false)) := by
              by_cases hgood : goodB (.mk h' l') (d + 1) (ag || b4) = true ∧ m ≤ 512
              · exact ⟨m, true, by rw [walkV, HM.out, if_pos hgood], .inl ⟨hgood.1, hgood.2, rfl, rfl⟩⟩
              · exact ⟨0, false, by rw [walkV, HM.out, if_neg hgood]; rfl, .inr ⟨hgood, rfl, rfl⟩⟩
            have HK := Lib.hid hkv.2
            rw [hkv.1] at HC
            clear hkv
            have HVb := Lib.hid (show 512 < 1 + t + m → walkV (.mk h l) d ag = .tuple #[.int .i64 0, .bool false] from fun hb => by rw [walkV, if_neg (by rw [HCn.out]; omega)])
            have HVn := Lib.hid (show ¬ (goodB (.mk h' l') (d + 1) (ag || b4) = true ∧ m ≤ 512) → walkV (.mk h l) d ag = .tuple #[.int .i64 0, .bool false] from fun hgood => by
              rw [walkV, HGd.out]
              refine if_neg fun e => hgood ⟨?_, ?_⟩
              · cases hq : goodB (.mk h' l') (d + 1) (ag || b4) with
                | true => rfl
                | false => rw [HNo.out hq] at e; cases e.1
              · have := e.2; rw [HCn.out] at this; omega)
            have HTS := Lib.hid (show goodB (.mk h' l') (d + 1) (ag || b4) = true → goodBs (l.take (j + 1)) (d + 1) (ag || b4) = true from fun e => by rw [HT.out, HS.out, e]; rfl)
            cases ag
            case' false =>
              simp only [Bool.false_or] at HC
              go_wp2_with fail
              go_region_held3 (fun w' => Below wr.heap.size wr w' ∧ w'.cell? ⟨w.heap.size, 0, none⟩ = some (.int .i64 h.k) ∧ w'.cell? ⟨w.heap.size, 7, none⟩ = some (.slice (some ⟨g, o, none⟩) l.length cap) ∧
                  w'.cell? ⟨g, o + j * 8, none⟩ = some (.int .i64 h'.k) ∧ w'.cell? ⟨g, o + j * 8 + 1, none⟩ = some (.int .i64 h'.n) ∧ w'.cell? ⟨g, o + j * 8 + 2, none⟩ = some (.int .i64 h'.vk) ∧ w'.cell? ⟨g, o + j * 8 + 3, none⟩ = some (.int .i64 h'.vn) ∧
                  w'.cell? ⟨g, o + j * 8 + 4, none⟩ = some (.string h'.vs) ∧ w'.cell? ⟨g, o + j * 8 + 5, none⟩ = some (.string h'.tab) ∧ w'.cell? ⟨g, o + j * 8 + 6, none⟩ = some (.string h'.col) ∧ w'.cell? ⟨g, o + j * 8 + 7, none⟩ = some (.slice A' l'.length cap'))
                (first
                  | exact ⟨hBd, p0, p7, a0, a1, a2, a3, a4, a5, a6, a7⟩
                  | ((try go_split_ands)
                     refine ⟨?_, ?_, ?_, ?_, ?_, ?_, ?_, ?_, ?_, ?_, ?_⟩
                     all_goals first | assumption | (exact Below.drew (by assumption)) | (exact bt (by assumption) hb) | (exact cell_kept hb (by assumption)) | go_keep))
                (first
                  | (go_at_call 40; refine (HC.out _ (by first | assumption | exact Below.drew (by assumption))).mono ?_; rintro e w' ⟨rfl, hb⟩))
              rename_i hold
              have HHo := Lib.hid hold.1
              clear hold
            case' true =>
              simp only [Bool.true_or] at HC
              go_wp2_with fail
              refine wp_region_noPanic ?_
              refine wp_region_held_drew (S := fun Wd => Below wr.heap.size wr Wd) (by kernel_rfl) hBd (fun hHeld => ?_)
              refine wpAnyH_take (i := 0) (oi := { dst := some 28, op := Go.Op.fieldAddr 26 (Go.Operand.tmp 3) 5, type := 0, pos := "ref.go:56", after := #[], guard := none }) (v := ?_) rfl (by kernel_rfl) (by kernel_rfl) (by kernel_rfl) (fun _ _ _ h => h) (Or.inl ⟨by rfl, ?_⟩) hHeld ?_
              rotate_left 1
              · (intro w0 hSw); go_simp <;> with_reducible rfl
              (try simp only [Act.put, List.setIfInBounds_toArray, List.set_cons_zero, List.set_cons_succ])
              refine wpAnyH_take (i := 1) (oi := { dst := some 29, op := Go.Op.load 24 (Go.Operand.tmp 28), type := 24, pos := "ref.go:56", after := #[{ on := 0, ground := Go.Ground.data }], guard := none }) (v := ?_) rfl (by kernel_rfl) (by kernel_rfl) (by kernel_rfl) (fun _ _ _ h => h) (Or.inl ⟨by rfl, ?_⟩) hHeld ?_
              rotate_left 1
              · (intro w0 hSw); (try dsimp only at hSw); have s7 := cell_kept hSw p7; have t0 := cell_kept hSw a0; have t1 := cell_kept hSw a1; have t2 := cell_kept hSw a2; have t3 := cell_kept hSw a3; have t4 := cell_kept hSw a4; have t5 := cell_kept hSw a5; have t6 := cell_kept hSw a6; have t7 := cell_kept hSw a7; go_simp <;> with_reducible rfl
              (try simp only [Act.put, List.setIfInBounds_toArray, List.set_cons_zero, List.set_cons_succ])
              refine wpAnyH_take (i := 2) (oi := { dst := some 30, op := Go.Op.move (Go.Operand.tmp 9), type := 3, pos := "ref.go:56", after := #[], guard := none }) (v := ?_) rfl (by kernel_rfl) (by kernel_rfl) (by kernel_rfl) (fun _ _ _ h => h) (Or.inl ⟨by rfl, ?_⟩) hHeld ?_
              rotate_left 1
              · (intro w0 hSw); go_simp <;> with_reducible rfl
              (try simp only [Act.put, List.setIfInBounds_toArray, List.set_cons_zero, List.set_cons_succ])
              refine wpAnyH_take (i := 3) (oi := { dst := some 31, op := Go.Op.indexAddr 24 (Go.Operand.tmp 29) (Go.Operand.tmp 30), type := 0, pos := "ref.go:56", after := #[{ on := 1, ground := Go.Ground.data }, { on := 2, ground := Go.Ground.data }], guard := none }) (v := ?_) rfl (by kernel_rfl) (by kernel_rfl) (by kernel_rfl) (fun _ _ _ h => h) (Or.inl ⟨by rfl, ?_⟩) hHeld ?_
              rotate_left 1
              · (intro w0 hSw); go_simp <;> with_reducible rfl
              (try simp only [Act.put, List.setIfInBounds_toArray, List.set_cons_zero, List.set_cons_succ])
              refine wpAnyH_take (i := 4) (oi := { dst := some 32, op := Go.Op.load 26 (Go.Operand.tmp 31), type := 26, pos := "ref.go:56", after := #[{ on := 3, ground := Go.Ground.data }], guard := none }) (v := ?_) rfl (by kernel_rfl) (by kernel_rfl) (by kernel_rfl) (fun _ _ _ h => h) (Or.inl ⟨by rfl, ?_⟩) hHeld ?_
              rotate_left 1
              · (intro w0 hSw); (try dsimp only at hSw); have s7 := cell_kept hSw p7; have t0 := cell_kept hSw a0; have t1 := cell_kept hSw a1; have t2 := cell_kept hSw a2; have t3 := cell_kept hSw a3; have t4 := cell_kept hSw a4; have t5 := cell_kept hSw a5; have t6 := cell_kept hSw a6; have t7 := cell_kept hSw a7; go_simp <;> with_reducible rfl
              (try simp only [Act.put, List.setIfInBounds_toArray, List.set_cons_zero, List.set_cons_succ])
              refine wpAnyH_take (i := 5) (oi := { dst := some 33, op := Go.Op.move (Go.Operand.tmp 1), type := 3, pos := "ref.go:56", after := #[], guard := none }) (v := ?_) rfl (by kernel_rfl) (by kernel_rfl) (by kernel_rfl) (fun _ _ _ h => h) (Or.inl ⟨by rfl, ?_⟩) hHeld ?_
              rotate_left 1
              · (intro w0 hSw); go_simp <;> with_reducible rfl
              (try simp only [Act.put, List.setIfInBounds_toArray, List.set_cons_zero, List.set_cons_succ])
              refine wpAnyH_take (i := 6) (oi := { dst := some 34, op := Go.Op.binOp Go.BinOp.add 3 (Go.Operand.tmp 33) (Go.Operand.const (Go.Value.int Go.IntKind.i64 1)) 3, type := 3, pos := "ref.go:56", after := #[{ on := 5, ground := Go.Ground.data }], guard := none }) (v := ?_) rfl (by kernel_rfl) (by kernel_rfl) (by kernel_rfl) (fun _ _ _ h => h) (Or.inl ⟨by rfl, ?_⟩) hHeld ?_
              rotate_left 1
              · (intro w0 hSw); go_simp <;> with_reducible rfl
              (try simp only [Act.put, List.setIfInBounds_toArray, List.set_cons_zero, List.set_cons_succ])
              refine wpAnyH_take (i := 7) (oi := { dst := some 35, op := Go.Op.move (Go.Operand.tmp 2), type := 4, pos := "ref.go:56", after := #[], guard := none }) (v := ?_) rfl (by kernel_rfl) (by kernel_rfl) (by kernel_rfl) (fun _ _ _ h => h) (Or.inl ⟨by rfl, ?_⟩) hHeld ?_
              rotate_left 1
              · (intro w0 hSw); go_simp <;> with_reducible rfl
              (try simp only [Act.put, List.setIfInBounds_toArray, List.set_cons_zero, List.set_cons_succ])
              refine wpAnyH_take (i := 8) (oi := { dst := some 36, op := Go.Op.move (Go.Operand.tmp 35), type := 4, pos := "ref.go:56", after := #[{ on := 7, ground := Go.Ground.data }], guard := none }) (v := ?_) rfl (by kernel_rfl) (by kernel_rfl) (by kernel_rfl) (fun _ _ _ h => h) (Or.inl ⟨by rfl, ?_⟩) hHeld ?_
              rotate_left 1
              · (intro w0 hSw); go_simp <;> with_reducible rfl
              (try simp only [Act.put, List.setIfInBounds_toArray, List.set_cons_zero, List.set_cons_succ])
              refine wpAnyH_take (i := 9) (oi := { dst := some 37, op := Go.Op.fieldAddr 26 (Go.Operand.tmp 3) 0, type := 0, pos := "ref.go:56", after := #[{ on := 8, ground := Go.Ground.guard }], guard := some (8, false) }) (v := undef) rfl (by kernel_rfl) (by kernel_rfl) (by kernel_rfl) (fun _ _ _ h => h) (Or.inr ⟨by rfl, rfl⟩) hHeld ?_
              (try simp only [Act.put, List.setIfInBounds_toArray, List.set_cons_zero, List.set_cons_succ])
              refine wpAnyH_take (i := 10) (oi := { dst := some 38, op := Go.Op.load 3 (Go.Operand.tmp 37), type := 3, pos := "ref.go:56", after := #[{ on := 9, ground := Go.Ground.data }, { on := 8, ground := Go.Ground.guard }], guard := some (8, false) }) (v := undef) rfl (by kernel_rfl) (by kernel_rfl) (by kernel_rfl) (fun _ _ _ h => h) (Or.inr ⟨by rfl, rfl⟩) hHeld ?_
              (try simp only [Act.put, List.setIfInBounds_toArray, List.set_cons_zero, List.set_cons_succ])
              refine wpAnyH_take (i := 11) (oi := { dst := some 39, op := Go.Op.binOp Go.BinOp.eql 3 (Go.Operand.tmp 38) (Go.Operand.const (Go.Value.int Go.IntKind.i64 4)) 3, type := 4, pos := "ref.go:56", after := #[{ on := 10, ground := Go.Ground.data }, { on := 8, ground := Go.Ground.guard }], guard := some (8, false) }) (v := undef) rfl (by kernel_rfl) (by kernel_rfl) (by kernel_rfl) (fun _ _ _ h => h) (Or.inr ⟨by rfl, rfl⟩) hHeld ?_
              (try simp only [Act.put, List.setIfInBounds_toArray, List.set_cons_zero, List.set_cons_succ])
              refine wpAnyH_take (i := 12) (oi := { dst := some 40, op := Go.Op.pick (Go.Operand.tmp 36) (Go.Operand.const (Go.Value.bool true)) (Go.Operand.tmp 39), type := 4, pos := "ref.go:56", after := #[{ on := 8, ground := Go.Ground.data }, { on := 11, ground := Go.Ground.data }], guard := none }) (v := ?_) rfl (by kernel_rfl) (by kernel_rfl) (by kernel_rfl) (fun _ _ _ h => h) (Or.inl ⟨by rfl, ?_⟩) hHeld ?_
              rotate_left 1
              · (intro w0 hSw); go_simp <;> with_reducible rfl
              (try simp only [Act.put, List.setIfInBounds_toArray, List.set_cons_zero, List.set_cons_succ])
              refine wpAnyH_ready (rs := [13]) (by kernel_rfl) (by simp) ?_
              refine AllReadyH.cons (o := { dst := some 41, op := Go.Op.call { callee := Go.Callee.value (Go.Operand.func 40), args := #[Go.Operand.tmp 32, Go.Operand.tmp 34, Go.Operand.tmp 40], argTypes := #[26, 3, 4] }, type := 48, pos := "ref.go:56", after := #[{ on := 4, ground := Go.Ground.data }, { on := 6, ground := Go.Ground.data }, { on := 12, ground := Go.Ground.data }, { on := 8, ground := Go.Ground.chain }], guard := none }) rfl (fun K hK => ?_) AllReadyH.nil
              rw [if_pos (by rfl)]
              go_simp
              refine (HC.out _ hBd).mono ?_
              rintro e w' ⟨rfl, hb⟩
              have HHo := Lib.hid (bt hBd hb)
              clear hb hHeld
              go_wp2_with fail
              refine hK.out _ _ HHo.out (fun hHeld => ?_)
              clear hK K
              (try simp only [Act.put, List.setIfInBounds_toArray, List.set_cons_zero, List.set_cons_succ])
              refine wpAnyH_take (i := 14) (oi := { dst := some 27, op := Go.Op.move (Go.Operand.tmp 41), type := 48, pos := "ref.go:56", after := #[{ on := 13, ground := Go.Ground.data }], guard := none }) (v := ?_) rfl (by kernel_rfl) (by kernel_rfl) (by kernel_rfl) (fun _ _ _ h => h) (Or.inl ⟨by rfl, ?_⟩) hHeld ?_
              rotate_left 1
              · (intro w0 hSw); go_simp <;> with_reducible rfl
              (try simp only [Act.put, List.setIfInBounds_toArray, List.set_cons_zero, List.set_cons_succ])
              refine wpAnyH_take (i := 15) (oi := { dst := some 42, op := Go.Op.extract (Go.Operand.tmp 27) 0, type := 3, pos := "ref.go:56", after := #[{ on := 14, ground := Go.Ground.data }], guard := none }) (v := ?_) rfl (by kernel_rfl) (by kernel_rfl) (by kernel_rfl) (fun _ _ _ h => h) (Or.inl ⟨by rfl, ?_⟩) hHeld ?_
              rotate_left 1
              · (intro w0 hSw); go_simp <;> with_reducible rfl
              (try simp only [Act.put, List.setIfInBounds_toArray, List.set_cons_zero, List.set_cons_succ])
              refine wpAnyH_take (i := 16) (oi := { dst := some 43, op := Go.Op.extract (Go.Operand.tmp 27) 1, type := 4, pos := "ref.go:56", after := #[{ on := 14, ground := Go.Ground.data }, { on := 17, ground := Go.Ground.gcOnly Go.Departure.lateStores }], guard := none }) (v := ?_) rfl (by kernel_rfl) (by kernel_rfl) (by kernel_rfl) (fun _ _ _ h => h) (Or.inl ⟨by rfl, ?_⟩) hHeld ?_
              rotate_left 1
              · (intro w0 hSw); go_simp <;> with_reducible rfl
              (try simp only [Act.put, List.setIfInBounds_toArray, List.set_cons_zero, List.set_cons_succ])
              refine wpAnyH_take (i := 17) (oi := { dst := some 10, op := Go.Op.assign (Go.Operand.tmp 42), type := 3, pos := "ref.go:56", after := #[{ on := 15, ground := Go.Ground.data }, { on := 13, ground := Go.Ground.chain }, { on := 0, ground := Go.Ground.phase }, { on := 1, ground := Go.Ground.phase }, { on := 2, ground := Go.Ground.phase }, { on := 3, ground := Go.Ground.phase }, { on := 4, ground := Go.Ground.phase }, { on := 5, ground := Go.Ground.phase }, { on := 6, ground := Go.Ground.phase }, { on := 7, ground := Go.Ground.phase }, { on := 8, ground := Go.Ground.phase }, { on := 9, ground := Go.Ground.phase }, { on := 10, ground := Go.Ground.phase }, { on := 11, ground := Go.Ground.phase }, { on := 12, ground := Go.Ground.phase }, { on := 13, ground := Go.Ground.phase }, { on := 14, ground := Go.Ground.phase }, { on := 15, ground := Go.Ground.phase }, { on := 16, ground := Go.Ground.textOnly Go.Departure.lateStores }], guard := none }) (v := ?_) rfl (by kernel_rfl) (by kernel_rfl) (by kernel_rfl) (fun _ _ _ h => h) (Or.inl ⟨by rfl, ?_⟩) hHeld ?_
              rotate_left 1
              · (intro w0 hSw); go_simp <;> with_reducible rfl
              (try simp only [Act.put, List.setIfInBounds_toArray, List.set_cons_zero, List.set_cons_succ])
              refine wpAnyH_take (i := 18) (oi := { dst := some 11, op := Go.Op.assign (Go.Operand.tmp 43), type := 4, pos := "ref.go:56", after := #[{ on := 16, ground := Go.Ground.data }, { on := 17, ground := Go.Ground.chain }, { on := 0, ground := Go.Ground.phase }, { on := 1, ground := Go.Ground.phase }, { on := 2, ground := Go.Ground.phase }, { on := 3, ground := Go.Ground.phase }, { on := 4, ground := Go.Ground.phase }, { on := 5, ground := Go.Ground.phase }, { on := 6, ground := Go.Ground.phase }, { on := 7, ground := Go.Ground.phase }, { on := 8, ground := Go.Ground.phase }, { on := 9, ground := Go.Ground.phase }, { on := 10, ground := Go.Ground.phase }, { on := 11, ground := Go.Ground.phase }, { on := 12, ground := Go.Ground.phase }, { on := 13, ground := Go.Ground.phase }, { on := 14, ground := Go.Ground.phase }, { on := 15, ground := Go.Ground.phase }, { on := 16, ground := Go.Ground.phase }, { on := 17, ground := Go.Ground.phase }], guard := none }) (v := ?_) rfl (by kernel_rfl) (by kernel_rfl) (by kernel_rfl) (fun _ _ _ h => h) (Or.inl ⟨by rfl, ?_⟩) hHeld ?_
              rotate_left 1
              · (intro w0 hSw); go_simp <;> with_reducible rfl
              (try simp only [Act.put, List.setIfInBounds_toArray, List.set_cons_zero, List.set_cons_succ])
              refine wpAnyH_done (by kernel_rfl) ?_ _
              refine NoPanic.normal ?_
              clear hHeld
            all_goals
              rcases HK.out with ⟨hg1, hm5, rfl, rfl⟩ | ⟨hg1, rfl, rfl⟩
              · by_cases hbig : 512 < 1 + t + kk
                · have hbig' : (512 : Int) < ((1 + t : Nat) : Int) + (kk : Int) := by push_cast; omega
                  have HV := Lib.hid (HVb.out hbig)
                  push_cast at hbig'
                  go_wp2_with fail
                  refine bodyPost_ret (v := .tuple #[.int .i64 0, .bool false]) (by simp [results, Tryz.results40, go_sem]) rfl ⟨by rw [HV.out], bt HBw.out HHo.out⟩
                · have hbig' : ¬ (512 : Int) < ((1 + t : Nat) : Int) + (kk : Int) := by push_cast; omega
                  push_cast at hbig'
                  have HGo := Lib.hid (HTS.out hg1)
                  go_wp2_with fail
                  go_roundw
                  case rel =>
                    first
                      | exact ⟨j + 1, by omega, by go_num, by rw [HCt.out]; push_cast; go_num, Lib.hid (HW.out.trans (HHo.out.mono HW.out.size)), HGo, by rw [HCt.out]; omega⟩
                      | ((repeat apply Exists.intro); exact ⟨⟨j + 1, by omega, by go_num, by rw [HCt.out]; push_cast; go_num, Lib.hid (HW.out.trans (HHo.out.mono HW.out.size)), HGo, by rw [HCt.out]; omega⟩, rfl⟩)
                  case measure => simp [intOf]; omega
              · have HV := Lib.hid (HVn.out hg1)
                go_wp2_with fail
                refine bodyPost_ret (v := .tuple #[.int .i64 0, .bool false]) (by simp [results, Tryz.results40, go_sem]) rfl ⟨by rw [HV.out], bt HBw.out HHo.out⟩
          · have hkk : j = l.length := by omega
            have HE := Lib.hid (show l.take j = l by rw [hkk, List.take_length])
            rw [HE.out] at HS hcj ⊢
            have HV := Lib.hid (show walkV (.mk h l) d ag = .tuple #[.int .i64 (1 + cntL l : Nat), .bool true] by rw [walkV, HGd.out, HS.out, HCn.out, if_pos ⟨rfl, hcj⟩])
            have HBw := Lib.hid hbw
            clear hbw hkk
            go_wp2_with fail
            refine bodyPost_ret (v := .tuple #[.int .i64 (1 + cntL l : Nat), .bool true]) (by simp [results, Tryz.results40, go_sem]) rfl ⟨by rw [HV.out], HBw.out⟩
end Go.Proofs.YteckhaicodmakaaGreatDoor
