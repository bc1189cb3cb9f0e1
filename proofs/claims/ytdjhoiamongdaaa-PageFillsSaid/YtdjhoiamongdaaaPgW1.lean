/-
  The walk of PageRoom.
-/
import Derived.Test.YtdjhoiamongdaaaPgJ
namespace Go.Proofs.Ytdjhoiamongdaaa
open Go.RowKit Go.Shelf

theorem mayI_is (r : List Va) : mayI r = 0 ∨ mayI r = 3 ∨ mayI r = 20 := by
  unfold mayI
  split
  · split
    · exact .inr (.inl rfl)
    · exact .inl rfl
  · exact .inr (.inr rfl)
theorem OwnB.madeBytes {w : World} {g : Nat} {ps : List (List Va)} (h : OwnB w g (makeP ps)) (hok : allOk ps) (hf : fitsP ps = true) : BytesAt w (some ⟨g, 0, none⟩) (makeP ps) := h.bytes (makeP_byte hok hf)
theorem allOk_snoc {ps : List (List Va)} {r : List Va} (h : allOk ps) (hr : okR r = true) : allOk (ps ++ [r]) := by
  intro x hx
  rcases List.mem_append.1 hx with hx | hx
  · exact h x hx
  · simp at hx; subst hx; exact hr
theorem OwnB.zeroB {w : World} {g : Nat} (h : OwnB w g zeroP) : OwnB w g (makeP []) := by rw [← zero_make]; exact h

set_option maxRecDepth 100000 in
set_option maxHeartbeats 1000000 in
theorem pageRoom_large (A : Option Addr) (c : Nat) (rs : List (List Va)) (w : World) (h : RowsAt w A rs) (hk : ∀ r ∈ rs, r.length ≤ 9223372036854775807) (hl : rs.length ≤ 9223372036854775807) (hb : largeP rs = true) :
    Calls Try.prog 7 #[.slice A rs.length c] w fun e w' => e = .returned (.bool true) ∧ Below w.heap.size w w' := by
  have HL := Lib.hid (largeP_any A c rs w h hk hl)
  rw [hb] at HL
  clear h hk hb
  go_enter Try.func7, Try.ntmps7
  go_wp2_with fail
  refine HL.out.mono ?_
  rintro e w1 ⟨rfl, rfl⟩
  go_wp2_with fail
  refine (livesP_yes _).mono ?_
  rintro e w2 ⟨rfl, hb⟩
  go_wp2_with fail
  go_ret
  exact ⟨rfl, hb⟩

set_option maxRecDepth 100000 in
set_option maxHeartbeats 2000000 in
theorem pageRoom_few (A : Option Addr) (c L : Nat) (rs : List (List Va)) (w : World) (h : RowsAt w A rs) (hL : rs.length = L) (hf : ∀ r ∈ rs, Fine r) (hk : ∀ r ∈ rs, r.length ≤ 9223372036854775807) (hb : largeP rs = false) :
    Calls Try.prog 7 #[.slice A L c] w fun e w' => e = .returned (.bool true) ∧ Below w.heap.size w w' := by
  have hlen := (largeP_len hb).1
  have HLg := Lib.hid (largeP_any A c rs w h hk (by omega))
  rw [hb, hL] at HLg
  have HR := Lib.hid h
  have HL := Lib.hid hL
  have HF := Lib.hid hf
  have HK := Lib.hid hk
  rw [hL] at hlen
  clear h hL hf hk hb
  go_enter Try.func7, Try.ntmps7
  go_wp2_with fail
  refine HLg.out.mono ?_
  rintro e w1 ⟨rfl, rfl⟩
  go_wp2_with fail
  refine (pageNew_any _).mono ?_
  rintro e w2 ⟨g, rfl, hg, hz, hb⟩
  clear hg
  have HZ := Lib.hid hz.zeroB
  have HB := Lib.hid hb
  clear hz hb
  go_wp2_with fail
  go_loopw [3, 4] (fun v i wr => ∃ (j g : Nat) (ps : List (List Va)), j ≤ L ∧ i = .int .i64 j ∧ v = .slice (some ⟨g, 0, none⟩) 256 256 ∧ Hid (OwnB wr g (makeP ps)) ∧ Hid (fitsP ps = true) ∧ Hid (allOk ps) ∧ Hid (Below w.heap.size w wr)) (fun _ i _ => L - (intOf i).toNat)
  case atStart => exact ⟨0, g, [], Nat.zero_le _, rfl, rfl, HZ, Lib.hid fits_nil, Lib.hid ok_live.1, HB⟩
  case round =>
    obtain ⟨j, g, ps, hj, rfl, rfl, HO, HFt, HOk, HB⟩ := hrel
    by_cases hlt : j < L
    · have hlt' : j < rs.length := by rw [HL.out]; exact hlt
      have HBy := Lib.hid (HO.out.madeBytes HOk.out HFt.out)
      have HLn := Lib.hid (makeP_len HFt.out)
      have HOp := Lib.hid (make_openP HOk.out HFt.out)
      go_wp2_with fail
      refine (pageRoom_any (some ⟨g, 0, none⟩) 256 256 (makeP ps) _ HBy.out HLn.out (Nat.le_refl _)).mono ?_
      rw [HOp.out]
      rintro e w2 ⟨rfl, hb⟩
      have HO := Lib.hid (HO.out.kept hb)
      have HBy := Lib.hid (HBy.out.kept hb)
      have HB := Lib.hid (bt HB.out hb)
      clear hb
      simp only
      obtain ⟨b, off, rfl, A', c', c0, hr⟩ := (HR.out.kept HB.out).cellAt hlt'
      have HFj := Lib.hid (HF.out rs[j] (List.getElem_mem hlt'))
      have hkj := HK.out rs[j] (List.getElem_mem hlt')
      generalize rs[j] = r at c0 hr HFj hkj
      have HRj := Lib.hid hr
      clear hr
      have HS := Lib.hid (fits_snoc (r := r) HFt.out)
      have HRm := Lib.hid (show fitsP (ps ++ [r]) = decide (((1 + sumV r : Nat) : Int) ≤ roomI ps.length ((1 + lenP ps : Nat) : Int)) from HS.out)
      generalize roomI ps.length ((1 + lenP ps : Nat) : Int) = m at HRm
      go_wp2_with fail
      refine (add_made (some ⟨g, 0, none⟩) 256 ps A' c' r w2 HBy.out HOk.out HFt.out (Nat.le_refl _) HRj.out HFj.out hkj).mono ?_
      rintro e w3 ⟨hb, he⟩
      have HB := Lib.hid (bt HB.out hb)
      have HO := Lib.hid (HO.out.kept hb)
      have HRj := Lib.hid (HRj.out.kept hb)
      have d0 := cell_kept hb c0
      clear hb c0 HBy
      rcases mayI_is r with hm | hm | hm
      · rw [if_pos hm] at he
        obtain ⟨hokr, _⟩ := mayI_ok hm
        by_cases hroom : ((1 + sumV r : Nat) : Int) ≤ m
        · have HFn := Lib.hid (show fitsP (ps ++ [r]) = true by rw [HRm.out]; simpa using hroom)
          rw [if_pos HFn.out] at he
          obtain ⟨g', rfl, _, ho'⟩ := he
          have HO' := Lib.hid ho'
          clear ho' hm
          go_wp2_with fail
          refine (sizeL_any A' c' r w3 HRj.out HFj.out hokr).mono ?_
          rintro e w4 ⟨rfl, rfl⟩
          have hd : decide (((1 + sumV r : Nat) : Int) ≤ m) = true := by simpa using hroom
          go_wp2_with fail
          go_roundw
          case rel => exact ⟨j + 1, g', ps ++ [r], by omega, by go_num, rfl, HO', HFn, Lib.hid (allOk_snoc HOk.out hokr), HB⟩
          case measure => simp [intOf]; omega
        · have HFn := Lib.hid (show fitsP (ps ++ [r]) = false by rw [HRm.out]; simpa using hroom)
          rw [if_neg (by rw [HFn.out]; decide)] at he
          subst he
          clear hm
          go_wp2_with fail
          refine (sizeL_any A' c' r w3 HRj.out HFj.out hokr).mono ?_
          rintro e w4 ⟨rfl, rfl⟩
          have hd : decide (((1 + sumV r : Nat) : Int) ≤ m) = false := by simpa using hroom
          go_wp2_with fail
          go_roundw
          case rel => exact ⟨j + 1, g, ps, by omega, by go_num, rfl, HO, HFt, HOk, HB⟩
          case measure => simp [intOf]; omega
      all_goals
        rw [hm, if_neg (by decide)] at he
        subst he
        clear hm
        go_wp2_with fail
        go_roundw
        case rel => exact ⟨j + 1, g, ps, by omega, by go_num, rfl, HO, HFt, HOk, HB⟩
        case measure => simp [intOf]; omega
    · go_wp2_with fail
      refine (livesP_yes _).mono ?_
      rintro e w3 ⟨rfl, hb3⟩
      go_wp2_with fail
      go_ret
      exact ⟨rfl, bt HB.out hb3⟩
theorem pageRoom_walk (A : Option Addr) (c : Nat) (rs : List (List Va)) (w : World) (h : RowsAt w A rs) (hf : ∀ r ∈ rs, Fine r) (hk : ∀ r ∈ rs, r.length ≤ 9223372036854775807) (hl : rs.length ≤ 9223372036854775807) :
    Calls Try.prog 7 #[.slice A rs.length c] w fun e w' => e = .returned (.bool true) ∧ Below w.heap.size w w' := by
  cases hb : largeP rs with
  | true => exact pageRoom_large A c rs w h hk hl hb
  | false => exact pageRoom_few A c rs.length rs w h rfl hf hk hb
end Go.Proofs.Ytdjhoiamongdaaa
