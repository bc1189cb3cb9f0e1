/-
  Package disk: the laws' Page: 256 bytes of one value.
-/
import Derived.Test.YthimgldohhaimabDk8
import Derived.Laws.MakeOwn
namespace Go.Proofs.Ythimgldohhaimab
open Go.RowKit Go.Maps

theorem info_byteD : (Try.prog.info? 5).map (fun i => (i.zero, i.size, i.bytes)) = some (some (.int .u8 0), 1, 1) := by kernel_rfl
theorem made_bytes (n : Nat) : madeCells #[.int .u8 0] n = ((List.replicate n (0 : Int)).map (Value.int .u8)).toArray := by
  apply Array.ext'
  apply List.ext_getElem?
  intro o
  by_cases ho : o < n
  · simp [madeCells, ho, Nat.mod_one]
  · rw [List.getElem?_eq_none (by simp [madeCells]; omega), List.getElem?_eq_none (by simp; omega)]
theorem run_make256 (w : World) : (Instr.makeSlice 31 (.int .i64 256) (.int .i64 256)).run Try.prog w = .ok (.slice (some ⟨w.heap.size, 0, none⟩) 256 256) (w.alloc (.cells ((List.replicate 256 (0 : Int)).map (Value.int .u8)).toArray 5)) := by
  obtain ⟨i, hi, hz, hs, hb⟩ := info_parts info_byteD
  have h := run_make (P := Try.prog) w 31 5 i (.int .u8 0) Try.underlying31 hi hz .i64 .i64 256 256 (by omega) (by omega) (by rw [hb]; decide) (by decide)
  rw [h]
  have e : madeCells (Value.int .u8 0).cells ((256 : Int).toNat * i.size) = ((List.replicate 256 (0 : Int)).map (Value.int .u8)).toArray := by
    rw [hs]; exact made_bytes 256
  rw [e]
  rfl
/-- The first j bytes are c. -/
def fillC (c : Int) (j : Nat) : List Int := List.replicate j c ++ List.replicate (256 - j) 0
theorem fillC_set (c : Int) (j : Nat) (hj : j < 256) : (fillC c j).set j c = fillC c (j + 1) := by
  unfold fillC
  apply List.ext_getElem?
  intro o
  rw [List.getElem?_set]
  simp only [List.length_append, List.length_replicate, List.getElem?_append, List.getElem?_replicate]
  by_cases h : j = o
  · subst h
    simp; omega
  · by_cases h1 : o < j
    · have h2 : o < j + 1 := by omega
      simp [h, h1, h2]
    · have h2 : ¬ o < j + 1 := by omega
      simp only [h, h1, h2, if_false]
      have e : (o - j < 256 - j) = (o - (j + 1) < 256 - (j + 1)) := by apply propext; omega
      simp only [e]
theorem BlkAt.set {w : World} {g j : Nat} {c : Int} (h : BlkAt w g (fillC c j)) (hj : j < 256) : BlkAt (w.setCell ⟨g, j, none⟩ (.int .u8 c)) g (fillC c (j + 1)) := by
  unfold BlkAt at h ⊢
  simp only [World.setCell, Array.getElem?_modify, if_true, h, Option.map_some, Option.isSome_none, Bool.false_eq_true, if_false, List.setIfInBounds_toArray]
  rw [← List.map_set, fillC_set c j hj]
set_option maxRecDepth 100000 in
set_option maxHeartbeats 2000000 in
theorem page_any (c : Int) (w : World) :
    Calls Try.prog 11 #[.int .u8 c] w fun e w' => ∃ g, e = .returned (.slice (some ⟨g, 0, none⟩) 256 256) ∧ w.heap.size ≤ g ∧ BlkAt w' g (pageC c) ∧ Below w.heap.size w w' := by
  have hmk := run_make256 w
  have HB0 := Lib.hid (ba w (.cells ((List.replicate 256 (0 : Int)).map (Value.int .u8)).toArray 5))
  have HK0 := Lib.hid (show BlkAt (w.alloc (.cells ((List.replicate 256 (0 : Int)).map (Value.int .u8)).toArray 5)) w.heap.size (fillC c 0) from (MapKept.heap_alloc w _).1)
  go_enter Try.func11, Try.ntmps11
  go_wp2_with fail
  obtain ⟨g, hg⟩ : ∃ g, g = w.heap.size := ⟨_, rfl⟩
  rw [← hg] at HK0 ⊢
  have HG := Lib.hid hg
  clear hmk hg
  go_loopw [4] (fun v wr => ∃ j : Nat, v = .int .i64 j ∧ j ≤ 256 ∧ Hid (BlkAt wr g (fillC c j)) ∧ Hid (Below w.heap.size w wr)) (fun v _ => 256 - (intOf v).toNat)
  case atStart => exact ⟨0, rfl, by omega, HK0, HB0⟩
  case round =>
    obtain ⟨j, rfl, hj, HK, HB⟩ := hrel
    clear HK0 HB0
    by_cases hlt : j < 256
    · have hb := HK.out
      unfold BlkAt at hb
      have hjl : j < (fillC c j).length := by simp [fillC]; omega
      obtain ⟨u, hu⟩ : ∃ u, wr.cell? ⟨g, j, none⟩ = some u := by
        refine ⟨((fillC c j).map (Value.int .u8))[j]'(by rw [List.length_map]; exact hjl), ?_⟩
        simp [World.cell?, hb, hjl]
      have hfz : wr.frozen? ⟨g, j, none⟩ = false := by simp [World.frozen?, hb]
      have HK2 := Lib.hid (HK.out.set hlt)
      have HB2 := Lib.hid (show Below w.heap.size w (wr.setCell ⟨g, j, none⟩ (.int .u8 c)) from HB.out.setCell (by rw [HG.out]; exact Nat.le_refl _) _)
      have hji : (j : Int) < 256 := by omega
      clear hb hjl
      go_wp2_with fail
      go_roundw
      case rel => exact ⟨j + 1, by go_num, by omega, HK2, HB2⟩
      case measure => simp [intOf]; omega
    · have hj2 : j = 256 := by omega
      subst hj2
      go_wp2_with fail
      go_ret
      exact ⟨g, rfl, by rw [HG.out]; exact Nat.le_refl _, HK.out, HB.out⟩
end Go.Proofs.Ythimgldohhaimab
