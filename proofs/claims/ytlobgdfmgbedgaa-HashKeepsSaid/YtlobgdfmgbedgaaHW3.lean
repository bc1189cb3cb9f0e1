/-
  The walk of HashKeeps.
-/
import Derived.Test.YtlobgdfmgbedgaaHKp
namespace Go.Proofs.Ytlobgdfmgbedgaa
open Go.RowKit Go.Shelf

set_option maxRecDepth 100000 in
set_option maxHeartbeats 4000000 in
theorem keeps_large (A C : Option Addr) (c cc : Nat) (s l fan : Int) (rs : List (List Va)) (cols : List Int) (w : World) (h : RowsAt w A rs) (hk : ∀ r ∈ rs, r.length ≤ 9223372036854775807) (hn : rs.length ≤ 9223372036854775807) (hbig : largeL rs = true ∨ (100 : Int) < cols.length) :
    Calls Try.prog 9 #[.int .u64 s, .int .i64 l, .int .i64 fan, .slice A rs.length c, .slice C cols.length cc] w fun e w' => e = .returned (.bool true) ∧ Below w.heap.size w w' := by
  have HG := Lib.hid hbig
  have HK := Lib.hid hk
  clear hbig hk
  go_enter Try.func9, Try.ntmps9
  go_wp2_with fail
  refine (largeH_any A c rs w h HK.out hn).mono ?_
  rintro e w1 ⟨rfl, rfl⟩
  cases hla : largeL rs
  · have hc1 : (100 : Int) < cols.length := by
      rcases HG.out with hx | hx
      · rw [hla] at hx; cases hx
      · exact hx
    go_wp2_with fail
    refine (livesH_yes _).mono ?_
    rintro e w3 ⟨rfl, hb3⟩
    go_wp2_with fail
    go_ret
    exact ⟨rfl, hb3⟩
  · go_wp2_with fail
    refine (livesH_yes _).mono ?_
    rintro e w3 ⟨rfl, hb3⟩
    go_wp2_with fail
    go_ret
    exact ⟨rfl, hb3⟩

set_option maxRecDepth 100000 in
set_option maxHeartbeats 4000000 in
theorem keeps_may (A C : Option Addr) (c cc : Nat) (s l fan : Int) (rs : List (List Va)) (cols : List Int) (w : World) (h : RowsAt w A rs) (hk : ∀ r ∈ rs, r.length ≤ 9223372036854775807) (hn : rs.length ≤ 9223372036854775807) (hla : largeL rs = false) (hc1 : ¬ (100 : Int) < cols.length) (hm : mayH l fan = false) :
    Calls Try.prog 9 #[.int .u64 s, .int .i64 l, .int .i64 fan, .slice A rs.length c, .slice C cols.length cc] w fun e w' => e = .returned (.bool true) ∧ Below w.heap.size w w' := by
  have HM := Lib.hid hm
  have HK := Lib.hid hk
  have HL := Lib.hid hla
  clear hm hk hla
  go_enter Try.func9, Try.ntmps9
  go_wp2_with fail
  refine (largeH_any A c rs w h HK.out hn).mono ?_
  rw [HL.out]
  rintro e w1 ⟨rfl, rfl⟩
  go_wp2_with fail
  refine (split_may A C rs.length c cols.length cc s l fan _ HM.out).mono ?_
  rintro e w1 ⟨rfl, rfl⟩
  go_wp2_with fail
  refine (livesH_yes _).mono ?_
  rintro e w3 ⟨rfl, hb3⟩
  go_wp2_with fail
  refine (livesH_yes _).mono ?_
  rintro e w4 ⟨rfl, hb4⟩
  go_wp2_with fail
  go_ret
  exact ⟨rfl, bt hb3 hb4⟩

set_option maxRecDepth 100000 in
set_option maxHeartbeats 8000000 in
theorem keeps_do (A C : Option Addr) (c cc : Nat) (s l fan : Int) (rs : List (List Va)) (cols : List Int) (w : World) (h : RowsAt w A rs) (hC : IntsAt w C cols) (hf : ∀ r ∈ rs, Fine r) (hA : A = none → c = 0) (hc : rs.length ≤ c) (hla : largeL rs = false) (hc1 : ¬ (100 : Int) < cols.length) (hm : mayH l fan = true) :
    Calls Try.prog 9 #[.int .u64 s, .int .i64 l, .int .i64 fan, .slice A rs.length c, .slice C cols.length cc] w fun e w' => e = .returned (.bool true) ∧ Below w.heap.size w w' := by
  obtain ⟨hn, hr⟩ := largeL_no hla
  obtain ⟨l0, l8, f1, f64⟩ := mayH_parts hm
  obtain ⟨N, rfl⟩ := Int.eq_ofNat_of_zero_le (by omega : 0 ≤ fan)
  have HM := Lib.hid hm
  have HK := Lib.hid (show ∀ r ∈ rs, r.length ≤ 9223372036854775807 from fun r h' => by have := hr r h'; omega)
  have HK2 := Lib.hid (show ∀ r ∈ rs, r.length ≤ 65536 from fun r h' => by have := hr r h'; omega)
  have HL := Lib.hid hla
  have HF := Lib.hid hf
  have HR := Lib.hid h
  have HC := Lib.hid hC
  clear hm hr hla hf h hC
  go_enter Try.func9, Try.ntmps9
  go_wp2_with fail
  refine (largeH_any A c rs w HR.out HK.out (by omega)).mono ?_
  rw [HL.out]
  rintro e w1 ⟨rfl, rfl⟩
  go_wp2_with fail
  refine (split_any A C c cc s l N rs cols w HM.out HR.out HC.out (by omega) HK2.out HF.out (by omega)).mono ?_
  rintro e w1 ⟨hb1, hx⟩
  have HB := Lib.hid hb1
  have HX := Lib.hid hx
  clear hb1 hx
  rcases HX.out with ⟨h0, rfl⟩ | ⟨h0, g, vs, rfl, hP⟩
  · have he0 : (firstE cols rs != 0) = true := by simpa using h0
    clear HX h0
    generalize firstE cols rs = e0 at he0
    go_wp2_with fail
    refine (livesH_yes _).mono ?_
    rintro e w3 ⟨rfl, hb3⟩
    have HB := Lib.hid (bt HB.out hb3)
    clear hb3
    go_wp2_with fail
    refine (livesH_yes _).mono ?_
    rintro e w4 ⟨rfl, hb4⟩
    have HB := Lib.hid (bt HB.out hb4)
    clear hb4
    go_wp2_with fail
    go_ret
    exact ⟨rfl, HB.out⟩
  · obtain ⟨hHeld, hlen, hperm⟩ := held_split s l N cols rs (by omega) h0
    have HP := Lib.hid hP
    have HH := Lib.hid hHeld
    have HLn := Lib.hid hlen
    have HPm := Lib.hid hperm
    clear hP h0 HX hHeld hlen hperm
    rw [Int.toNat_natCast]
    generalize splitH s l N cols rs = P at HP HH HLn HPm
    go_wp2_with fail
    refine (livesH_yes _).mono ?_
    rintro e w3 ⟨rfl, hb3⟩
    have HP := Lib.hid (HP.out.kept hb3)
    have HB := Lib.hid (bt HB.out hb3)
    clear hb3
    have HFl := Lib.hid (show P.flatten.length = rs.length from HPm.out.length_eq)
    go_wp2_with fail
    go_loopw [13, 14] (fun vo i wr => ∃ j : Nat, j ≤ N ∧ i = .int .i64 j ∧ Hid (Below w3.heap.size w3 wr) ∧ Hid (ListOwn wr w3.heap.size vo (P.take j).flatten)) (fun _ i _ => N - (intOf i).toNat)
    case atStart => exact ⟨0, Nat.zero_le _, rfl, Lib.hid (Below.refl _ _), Lib.hid (by simpa using ListOwn.nil _ _)⟩
    case round =>
      obtain ⟨j, hj, rfl, HBj, HOj⟩ := hrel
      by_cases hlt : j < N
      · have hlt' : j < P.length := by rw [HLn.out]; exact hlt
        obtain ⟨A1, q1, c0, r0, hA1⟩ := (HP.out.kept HBj.out).rowsA hlt'
        have r3 : RowsAt w3 A1 P[j] := by
          obtain ⟨A2, q2, d0, s0, _⟩ := HP.out.rowsA hlt'
          have := cell_kept HBj.out d0
          rw [c0] at this
          cases this
          exact s0
        have d3 : w3.cell? ⟨g, j, none⟩ = some (.slice A1 P[j].length q1) := by
          obtain ⟨A2, q2, d0, s0, _⟩ := HP.out.rowsA hlt'
          have := cell_kept HBj.out d0
          rw [c0] at this
          rw [d0, this]
        have HRp := Lib.hid r3
        have HFs := Lib.hid (flatten_take_succ P j hlt')
        have hle1 := flatten_take_le P j
        have hle2 := flatten_take_le P (j + 1)
        rw [flatten_take_succ P j hlt', List.length_append] at hle2
        rw [HFl.out] at hle1 hle2
        have HHj := Lib.hid (HH.out j P[j] (List.getElem?_eq_getElem hlt'))
        have HMp := Lib.hid (show ∀ r ∈ P[j], r ∈ rs from fun r hr => HPm.out.mem_iff.1 (List.mem_flatten.2 ⟨_, List.getElem_mem hlt', hr⟩))
        generalize P[j] = p at c0 d3 HRp HFs hle2 HHj HMp
        clear r0 r3 hlt'
        have HI := Lib.hid ((HRp.out.inB (Nat.le_refl _)).kept (Nat.le_refl _) HBj.out)
        have hszj := HBj.out.size
        have hji : (j : Int) < (N : Int) := by omega
        generalize hLp : p.length = L at c0 d3 hle2
        have HD3 := Lib.hid d3
        clear d3
        have HLp := Lib.hid hLp
        clear hLp
        go_wp2_with (at_builtin; refine wpList_appL rfl (.tmp 50) (.tmp 54) rfl u13 (P.take j).flatten A1 q1 L p _ w3.heap.size rfl rfl HLp.out HOj.out HI.out hA1 ?c1 ?c2 ?_)
        case c1 => exact hszj
        case c2 => rw [HLp.out]; omega
        intro v' w9 hl9 hG9
        have HO9 := Lib.hid (show ListOwn w9 w3.heap.size v' (P.take (j + 1)).flatten by rw [HFs.out]; exact hl9)
        have HB9 := Lib.hid (HBj.out.trans hG9.1)
        clear hl9 hG9 HI HOj HBj c0
        generalize hacc : (P.take (j + 1)).flatten = acc at HO9
        have HAC := Lib.hid hacc
        clear hacc
        go_wp2_with fail
        go_loopw [15] (fun i wr2 => ∃ q : Nat, q ≤ L ∧ i = .int .i64 q ∧ Hid (Below w3.heap.size w3 wr2) ∧ Hid (ListOwn wr2 w3.heap.size v' acc)) (fun i _ => L - (intOf i).toNat)
        case atStart => exact ⟨0, Nat.zero_le _, rfl, HB9, HO9⟩
        case round =>
          obtain ⟨q, hq, rfl, HBq, HOq⟩ := hrel
          clear HB9 HO9
          have c0 := cell_kept HBq.out HD3.out
          by_cases hlq : q < L
          · have hlq' : q < p.length := by rw [HLp.out]; exact hlq
            obtain ⟨b, off, rfl, A2, q2, d0, s0⟩ := (HRp.out.kept HBq.out).cellAt hlq'
            obtain ⟨he0, hpart⟩ := HHj.out p[q] (List.getElem_mem hlq')
            have HFr := Lib.hid (HF.out p[q] (HMp.out _ (List.getElem_mem hlq')))
            generalize p[q] = r at d0 s0 he0 hpart HFr
            obtain ⟨hbp, hok⟩ := errH_zero he0
            have hp1 : cols.length ≤ 32 := by simp [badPlace] at hbp; exact hbp.1
            have HP2 := Lib.hid (show cols.any (lackV r) = false by simpa [badPlace, show ¬ 32 < cols.length by omega] using hbp)
            have HS0 := Lib.hid s0
            have HPT := Lib.hid hpart
            have HO := Lib.hid hok
            have HFk := Lib.hid (fine_key cols HFr.out)
            have HKL := Lib.hid (show (keyH cols r).length = cols.length by simp [keyH])
            clear s0 he0 hpart hbp hok hlq'
            have hji2 : (q : Int) < (L : Int) := by omega
            go_wp2_with fail
            refine (refPick_ok A2 C q2 cc r cols wr HS0.out ((HC.out.kept HB.out).kept HBq.out) hp1 HP2.out).mono ?_
            rintro e w10 ⟨A3, c3, rfl, hk3, hb10⟩
            have HK3 := Lib.hid (show RowAt w10 A3 (keyH cols r) from hk3)
            have HOq := Lib.hid (HOq.out.kept HBq.out.size hb10)
            have HBq := Lib.hid (HBq.out.trans (hb10.mono HBq.out.size))
            clear hk3 hb10 c0 d0
            go_wp2_with fail
            refine (part_ok_L A3 cols.length c3 s l N (keyH cols r) _ HKL.out HM.out HK3.out HFk.out HO.out).mono ?_
            rw [HPT.out]
            rintro e w11 ⟨rfl, hb11⟩
            have HOq := Lib.hid (HOq.out.kept HBq.out.size hb11)
            have HBq := Lib.hid (HBq.out.trans (hb11.mono HBq.out.size))
            clear hb11
            go_wp2_with fail
            go_roundw
            case rel => exact ⟨q + 1, by omega, by go_num, HBq, HOq⟩
            case measure => simp [intOf]; omega
          · go_wp2_with fail
            go_roundw
            case rel => exact ⟨j + 1, by omega, by go_num, HBq, Lib.hid (by rw [HAC.out]; exact HOq.out)⟩
            case measure => simp [intOf]; omega
      · obtain rfl : j = N := by omega
        have hO := HOj.out
        rw [List.take_of_length_le (by rw [HLn.out]; exact Nat.le_refl _)] at hO
        obtain ⟨A9, c9, rfl, hr9, hA9, hc9⟩ := own_end hO
        have HR9 := Lib.hid hr9
        have HBx := Lib.hid (bt HB.out HBj.out)
        rw [HFl.out] at hc9
        have HA9 := Lib.hid hA9
        rw [HFl.out]
        clear hO hr9 hA9 HOj
        have HKf := Lib.hid (show ∀ r ∈ P.flatten, r.length ≤ 65536 from fun r hr => HK2.out r (HPm.out.mem_iff.1 hr))
        go_wp2_with fail
        refine (refSort_any rs.length A9 rs.length c9 P.flatten wr HFl.out (Nat.le_refl _) hc9 (by omega) HR9.out HA9.out HKf.out).mono ?_
        rintro e w4 ⟨hb4, A4, c4, rs1, rfl, hr4, hp4, ho4, _, _⟩
        rw [HFl.out]
        have HR4 := Lib.hid hr4
        have HP4 := Lib.hid (hp4.trans HPm.out)
        have HO4 := Lib.hid ho4
        have HBx := Lib.hid (bt HBx.out hb4)
        clear hb4 hr4 hp4 ho4
        go_wp2_with fail
        refine (refSort_any rs.length A rs.length c rs w4 rfl (Nat.le_refl _) hc (by omega) (HR.out.kept HBx.out) hA HK2.out).mono ?_
        rintro e w5 ⟨hb5, A5, c5, rs2, rfl, hr5, hp5, ho5, _, _⟩
        have e12 : rs2 = rs1 := ho5.eq HO4.out (hp5.trans HP4.out.symm)
        subst e12
        have HR4 := Lib.hid (HR4.out.kept hb5)
        have HR5 := Lib.hid hr5
        have HBx := Lib.hid (bt HBx.out hb5)
        have HL5 := Lib.hid (show rs2.length = rs.length from HP4.out.length_eq)
        have HK5 := Lib.hid (show ∀ r ∈ rs2, r.length ≤ 9223372036854775807 from fun r hr => HK.out r (HP4.out.mem_iff.1 hr))
        clear hb5 hr5 hp5 ho5
        go_wp2_with fail
        refine (sameList_L A4 A5 rs.length c4 c5 rs2 _ HL5.out HR4.out HR5.out (by omega) HK5.out).mono ?_
        rintro e w6 ⟨rfl, hb6⟩
        have HBx := Lib.hid (bt HBx.out hb6)
        clear hb6
        go_wp2_with fail
        go_ret
        exact ⟨rfl, HBx.out⟩

theorem hashKeeps_walk (A C : Option Addr) (c cc : Nat) (s l fan : Int) (rs : List (List Va)) (cols : List Int) (w : World) (h : RowsAt w A rs) (hC : IntsAt w C cols) (hf : ∀ r ∈ rs, Fine r) (hk : ∀ r ∈ rs, r.length ≤ 9223372036854775807) (hA : A = none → c = 0) (hc : rs.length ≤ c) (hn : rs.length ≤ 9223372036854775807) :
    Calls Try.prog 9 #[.int .u64 s, .int .i64 l, .int .i64 fan, .slice A rs.length c, .slice C cols.length cc] w fun e w' => e = .returned (.bool true) ∧ Below w.heap.size w w' := by
  cases hla : largeL rs
  · by_cases hc1 : (100 : Int) < cols.length
    · exact keeps_large A C c cc s l fan rs cols w h hk hn (.inr hc1)
    · cases hm : mayH l fan
      · exact keeps_may A C c cc s l fan rs cols w h hk hn hla hc1 hm
      · exact keeps_do A C c cc s l fan rs cols w h hC hf hA hc hla hc1 hm
  · exact keeps_large A C c cc s l fan rs cols w h hk hn (.inl hla)
end Go.Proofs.Ytlobgdfmgbedgaa
