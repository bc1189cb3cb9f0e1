/-
  The document's Check, Size, SameList.
-/
import Derived.Test.YteckhaicodmakaaGreatDoorExe
import Derived.Test.YteckhaicodmakaaGreatDoorExa
import Derived.Test.YteckhaicodmakaaGreatDoorExq
namespace Go.Proofs.YteckhaicodmakaaGreatDoor
open Go.RowKit Go.Shelf

theorem walkV_1 (x : Ex) : walkV x 1 false = if okX x = true then .tuple #[.int .i64 (cnt x), .bool true] else .tuple #[.int .i64 0, .bool false] := by
  unfold walkV okX
  by_cases h : goodB x 1 false = true ∧ cnt x ≤ 512
  · rw [if_pos h, if_pos (by simp [h.1, h.2])]
  · rw [if_neg h, if_neg (by simpa using h)]
def sizN (x : Ex) : Nat := if okX x = true then cnt x else 0
theorem refCheck10_any (h : Hd) (l : List Ex) (w : World) (A : Option Addr) (cap : Nat) (hc : cnt (.mk h l) ≤ 1000000) (hs : AllSm (.mk h l)) (hX : XsAt w.heap.size w l A) :
    Calls Tryz.prog 9 #[XV h A l.length cap] w fun e w' => e = .returned (.bool (okX (.mk h l))) ∧ Below w.heap.size w w' := by
  have hba := ba w (xbox h A l.length cap)
  have HBa := Lib.hid hba
  obtain ⟨⟨x0, x1, x2, x3, x4, x5, x6, x7⟩, _⟩ := cell8 (MapKept.heap_alloc w (xbox h A l.length cap)).1
  have HC := Lib.hid (walk_n _ h l hc (Nat.le_refl _) hs (w.alloc (xbox h A l.length cap)) A cap 1 false (XsAt.next hX hba) (by omega))
  rw [walkV_1] at HC
  clear hX hs hba
  cases ho : okX (.mk h l)
  all_goals
    rw [ho] at HC
    clear ho
    simp only [if_true, Bool.false_eq_true, if_false] at HC
    go_enter Tryz.func9, Tryz.ntmps9
    go_wp2_with fail
    refine (show Calls Tryz.prog 40 #[XV h A l.length cap, .int .i64 1, .bool false] _ _ from HC.out).mono ?_
    rintro e w1 ⟨rfl, hb⟩
    have HB1 := Lib.hid (bt HBa.out hb)
    clear hb
    go_wp2_with fail
    go_ret
    exact ⟨rfl, HB1.out⟩
theorem refSize_any (h : Hd) (l : List Ex) (w : World) (A : Option Addr) (cap : Nat) (hc : cnt (.mk h l) ≤ 1000000) (hs : AllSm (.mk h l)) (hX : XsAt w.heap.size w l A) :
    Calls Tryz.prog 14 #[XV h A l.length cap] w fun e w' => e = .returned (.int .i64 (sizN (.mk h l))) ∧ Below w.heap.size w w' := by
  have hba := ba w (xbox h A l.length cap)
  have HBa := Lib.hid hba
  obtain ⟨⟨x0, x1, x2, x3, x4, x5, x6, x7⟩, _⟩ := cell8 (MapKept.heap_alloc w (xbox h A l.length cap)).1
  have HC := Lib.hid (walk_n _ h l hc (Nat.le_refl _) hs (w.alloc (xbox h A l.length cap)) A cap 1 false (XsAt.next hX hba) (by omega))
  rw [walkV_1] at HC
  unfold sizN
  clear hX hs hba
  cases ho : okX (.mk h l)
  all_goals
    rw [ho] at HC
    clear ho
    simp only [if_true, Bool.false_eq_true, if_false] at HC ⊢
    go_enter Tryz.func14, Tryz.ntmps14
    go_wp2_with fail
    refine (show Calls Tryz.prog 40 #[XV h A l.length cap, .int .i64 1, .bool false] _ _ from HC.out).mono ?_
    rintro e w1 ⟨rfl, hb⟩
    have HB1 := Lib.hid (bt HBa.out hb)
    clear hb
    go_wp2_with fail
    go_ret
    exact ⟨rfl, HB1.out⟩
theorem refSame_any (h h' : Hd) (l l' : List Ex) (w : World) (A : Option Addr) (cap : Nat) (B : Option Addr) (cap' : Nat) (hX : XsAt w.heap.size w l A) (hcap : l.length ≤ cap) (hY : XsAt w.heap.size w l' B) (hcap' : l'.length ≤ cap') (hc : cnt (.mk h l) ≤ 1000000) (hc' : cnt (.mk h' l') ≤ 1000000) :
    Calls Tryz.prog 17 #[XV h A l.length cap, XV h' B l'.length cap'] w fun e w' => e = .returned (.bool (sameX (.mk h l) (.mk h' l'))) ∧ Below w.heap.size w w' :=
  refSame_n _ h h' l l' hc (Nat.le_refl _) hc' w A cap B cap' hX hcap hY hcap'
set_option maxRecDepth 100000 in
set_option maxHeartbeats 8000000 in
/-- Two lists that hold the same. -/
theorem sameList_yes (l : List Ex) (w : World) (A : Option Addr) (cap : Nat) (B : Option Addr) (cap' : Nat) (hX : XsAt w.heap.size w l A) (hY : XsAt w.heap.size w l B) (hc : cntL l ≤ 1000000) :
    Calls Tryz.prog 32 #[.slice A l.length cap, .slice B l.length cap'] w fun e w' => e = .returned (.bool true) ∧ Below w.heap.size w w' := by
  have HX := Lib.hid hX
  have HY := Lib.hid hY
  have hlen := cntL_len l
  clear hX hY
  go_enter Tryz.func32, Tryz.ntmps32
  go_wp2_with fail
  go_loopw [5] (fun i W => ∃ j : Nat, j ≤ l.length ∧ i = .int .i64 j ∧ Hid (Below w.heap.size w W)) (fun i _ => l.length - (intOf i).toNat)
  case atStart => exact ⟨0, Nat.zero_le _, rfl, Lib.hid (Below.refl _ _)⟩
  case round =>
    obtain ⟨j, hj, rfl, HW⟩ := hrel
    by_cases hkl : j < l.length
    · obtain ⟨h', l', g, o, A', c1, hx, rfl, hg, ⟨a0, a1, a2, a3, a4, a5, a6, a7⟩, hle, hx2⟩ := kid_at HX.out HW.out hkl
      obtain ⟨h2, l2, g', o', B', c2, hy, rfl, hg', ⟨d0, d1, d2, d3, d4, d5, d6, d7⟩, hle2, hy2⟩ := kid_at HY.out HW.out hkl
      rw [hx] at hy
      simp only [Option.some.injEq, Ex.mk.injEq] at hy
      obtain ⟨rfl, rfl⟩ := hy
      have hcm := cntL_mem hx
      have HS := Lib.hid ((sameX_iff (.mk h' l') (.mk h' l')).2 rfl)
      have HC := Lib.hid (show ∀ w1, Below wr.heap.size wr w1 → Calls Tryz.prog 17 #[XV h' A' l'.length c1, XV h' B' l'.length c2] w1 fun e w' => e = .returned (.bool true) ∧ Below w1.heap.size w1 w' from fun w1 hb1 => by
        have := refSame_any h' h' l' l' w1 A' c1 B' c2 (XsAt.next hx2 hb1) hle (XsAt.next hy2 hb1) hle2 (by omega) (by omega)
        rwa [HS.out] at this)
      have hBd := Below.drew (Below.refl wr.heap.size wr)
      have hwj : IntKind.i64.wrap (j : Int) = (j : Int) := by rw [IntKind.wrap_i64]; omega
      clear hx hx2 hy2
      go_wp2_with fail
      go_region_held3 (fun w' => Below wr.heap.size wr w' ∧
          w'.cell? ⟨g, o + j * 8, none⟩ = some (.int .i64 h'.k) ∧ w'.cell? ⟨g, o + j * 8 + 1, none⟩ = some (.int .i64 h'.n) ∧ w'.cell? ⟨g, o + j * 8 + 2, none⟩ = some (.int .i64 h'.vk) ∧ w'.cell? ⟨g, o + j * 8 + 3, none⟩ = some (.int .i64 h'.vn) ∧
          w'.cell? ⟨g, o + j * 8 + 4, none⟩ = some (.string h'.vs) ∧ w'.cell? ⟨g, o + j * 8 + 5, none⟩ = some (.string h'.tab) ∧ w'.cell? ⟨g, o + j * 8 + 6, none⟩ = some (.string h'.col) ∧ w'.cell? ⟨g, o + j * 8 + 7, none⟩ = some (.slice A' l'.length c1) ∧
          w'.cell? ⟨g', o' + j * 8, none⟩ = some (.int .i64 h'.k) ∧ w'.cell? ⟨g', o' + j * 8 + 1, none⟩ = some (.int .i64 h'.n) ∧ w'.cell? ⟨g', o' + j * 8 + 2, none⟩ = some (.int .i64 h'.vk) ∧ w'.cell? ⟨g', o' + j * 8 + 3, none⟩ = some (.int .i64 h'.vn) ∧
          w'.cell? ⟨g', o' + j * 8 + 4, none⟩ = some (.string h'.vs) ∧ w'.cell? ⟨g', o' + j * 8 + 5, none⟩ = some (.string h'.tab) ∧ w'.cell? ⟨g', o' + j * 8 + 6, none⟩ = some (.string h'.col) ∧ w'.cell? ⟨g', o' + j * 8 + 7, none⟩ = some (.slice B' l'.length c2))
        (first
          | exact ⟨hBd, a0, a1, a2, a3, a4, a5, a6, a7, d0, d1, d2, d3, d4, d5, d6, d7⟩
          | ((try go_split_ands)
             refine ⟨?_, ?_, ?_, ?_, ?_, ?_, ?_, ?_, ?_, ?_, ?_, ?_, ?_, ?_, ?_, ?_, ?_⟩
             all_goals first | assumption | (exact Below.drew (by assumption)) | (exact bt (by assumption) hb) | (exact cell_kept hb (by assumption)) | go_keep))
        (first
          | (go_at_call 17; refine (HC.out _ (by first | assumption | exact Below.drew (by assumption))).mono ?_; rintro e w' ⟨rfl, hb⟩))
      rename_i hold
      have HHo := Lib.hid (bt HW.out hold.1)
      clear hold
      go_wp2_with fail
      go_roundw
      case rel => first | exact ⟨j + 1, by omega, by go_num, HHo⟩ | ((repeat apply Exists.intro); exact ⟨⟨j + 1, by omega, by go_num, HHo⟩, rfl⟩)
      case measure => simp [intOf]; omega
    · go_wp2_with fail
      go_ret
      exact ⟨rfl, HW.out⟩
end Go.Proofs.YteckhaicodmakaaGreatDoor
