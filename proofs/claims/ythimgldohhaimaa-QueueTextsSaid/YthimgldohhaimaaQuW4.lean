/-
  The walk of QueueTexts, last part.
-/
import Derived.Test.YthimgldohhaimaaQuW3
namespace Go.Proofs.Ythimgldohhaimaa
open Go.RowKit Go.Conc

set_option maxRecDepth 100000 in
set_option maxHeartbeats 8000000 in
theorem queueTexts_in (A : Option Addr) (cc : Nat) (xs : List ByteArray) (room piece : Int) (w : World) (hx : StrsQ w A xs) (h0 : 1 ≤ room) (h1 : room ≤ 1024) (hl : xs.length ≤ 100) (hp : 1 ≤ piece) :
    Calls Try.prog 5 #[.slice A xs.length cc, .int .i64 room, .int .i64 piece] w fun e w' => e = .returned (.bool true) ∧ Below w.heap.size w w' := by
  obtain ⟨i0, hi, hz0, hz1, hz2⟩ := info_parts infoS_e
  have HN := Lib.hid (qt_new 100 (by decide) (by decide) w)
  have HN2 := Lib.hid (fun w => qt_new room h0 h1 w)
  have HX := Lib.hid hx
  have hli : (xs.length : Int) ≤ (100 : Int) := by omega
  clear hx
  go_enter Try.func5, Try.ntmps5
  go_wp2_with fail
  refine HN.out.mono ?_
  rintro e w1 ⟨⟨q, c, rfl, hq1⟩, hb1⟩
  have HQ1 := Lib.hid hq1
  have HB1 := Lib.hid hb1
  clear hb1 hq1 HN
  go_wp2_with fail
  refine (HN2.out w1).mono ?_
  rintro e w2 ⟨⟨p, d, rfl, hq2⟩, hb2⟩
  have HT2 := Lib.hid (TwoQ.start HQ1.out hb2 hq2 HB1.out.size)
  have HB2 := Lib.hid (bt HB1.out hb2)
  clear hb2 hq2 HN2 HQ1 HB1
  go_wp2_with fail
  refine (lives7_yes w2).mono ?_
  rintro e w3 ⟨rfl, hb3⟩
  have HT3 := Lib.hid (HT2.out.kept hb3)
  have HB3 := Lib.hid (bt HB2.out hb3)
  clear hb3 HT2 HB2
  go_wp2_with fail
  go_loopw [11] (fun v wr => ∃ (j : Nat), v = .int .i64 j ∧ j ≤ xs.length ∧ Hid (TwoQ w.heap.size wr q c p d room.toNat (xs.take j) []) ∧ Hid (Below w.heap.size w wr)) (fun v _ => xs.length - (intOf v).toNat)
  case atStart => exact ⟨0, rfl, Nat.zero_le _, HT3, HB3⟩
  case round =>
    obtain ⟨j, rfl, hj, HT, HB⟩ := hrel
    clear HT3 HB3
    by_cases hlt : j < xs.length
    · obtain ⟨b, off, rfl, hbb, c00⟩ := HX.out.at hlt
      obtain ⟨x, hx⟩ : ∃ x, x = xs[j] := ⟨_, rfl⟩
      rw [← hx] at c00
      have HXj := Lib.hid (show xs.take (j + 1) = xs.take j ++ [x] by rw [hx]; exact List.take_succ_eq_append_getElem hlt)
      have c0 := (HB.out.cell (p := ⟨b, off + j, none⟩) hbb).trans c00
      clear c00 hbb hx
      go_wp2_with fail
      refine (tq_put HT.out x (by simp; omega)).mono ?_
      rintro e w4 ⟨rfl, ht4, hb4⟩
      have HT4 := Lib.hid (show TwoQ w.heap.size w4 q c p d room.toNat (xs.take (j + 1)) [] by rw [HXj.out]; exact ht4)
      have HB4 := Lib.hid (HB.out.trans hb4)
      clear ht4 hb4 HT HB
      go_wp2_with fail
      go_roundw
      case rel => exact ⟨j + 1, by go_num, hlt, HT4, HB4⟩
      case measure => simp [intOf]; omega
    · have hjl : xs.take j = xs := List.take_of_length_le (by omega)
      have HR0 := Lib.hid (show TxR w.heap.size wr.heap.size wr q c p d room.toNat xs (.slice none 0 0) 0 from ⟨by simpa [hjl] using HT.out, HT.out.a.low, World.ownsRow_nil _ _ _ _, ⟨block_ltQ HT.out.a.box, HT.out.a.clt, block_ltQ HT.out.b.box, HT.out.b.clt⟩, Nat.le_refl _, HT.out.a.lt⟩)
      obtain ⟨U, hU⟩ : ∃ U, U = wr.heap.size := ⟨_, rfl⟩
      rw [← hU] at HR0
      clear hjl hU HT
      go_wp2_with fail
      go_loopw [12, 13] (fun s v wr => ∃ (n t : Nat), v = .int .i64 n ∧ n ≤ 200 ∧ t ≤ xs.length ∧ (n ≤ t ∨ t = xs.length) ∧ Hid (TxR w.heap.size U wr q c p d room.toNat xs s t) ∧ Hid (Below w.heap.size w wr)) (fun _ v _ => 200 - (intOf v).toNat)
      case atStart => exact ⟨0, 0, rfl, by omega, Nat.zero_le _, .inl (Nat.le_refl _), HR0, HB⟩
      case round =>
        obtain ⟨n, t, rfl, hn, ht, hnt, HR, HB5⟩ := hrel
        clear HR0 HB
        by_cases hn2 : n < 200
        · have hn2i : (n : Int) < 200 := by omega
          go_wp2_with fail
          refine (tx_move HR.out piece).mono ?_
          rintro e w6 ⟨k, hk, rfl, hm6, hb6⟩
          have hk1 : (k : Int) ≤ piece := by simp only [mvT, mvK] at hk; omega
          have hk2 : (k : Int) ≤ room := by simp only [mvT, mvK] at hk; omega
          have hk3 : k ≤ xs.length - t ∧ (k = xs.length - t ∨ 1 ≤ k) := by simp only [mvT, mvK] at hk; omega
          have HM6 := Lib.hid hm6
          have HB6 := Lib.hid (HB5.out.trans hb6)
          clear hm6 hb6 HR HB5 hk
          go_wp2_with fail
          refine (tx_all HM6.out).mono ?_
          rintro e w7 ⟨u, rfl, hu, hun, ht7, hl7, ho7, _, hs7, hb7⟩
          have HT7 := Lib.hid ht7
          have HL7 := Lib.hid hl7
          have HO7 := Lib.hid ho7
          have HLt := Lib.hid HM6.out.lt
          have HSz := Lib.hid (And.intro hs7 HM6.out.sz.2)
          have HB7 := Lib.hid (HB6.out.trans hb7)
          have hlen : ((xs.drop t).take k).length = k := by simp; omega
          by_cases hk0 : k = 0
          · subst hk0
            obtain rfl := hun (by simp)
            clear hu hun ht7 hl7 ho7 hs7 hb7 HM6 HB6 hlen
            have HR7 := Lib.hid (show TxR w.heap.size U w7 q c p d room.toNat xs u12 t from ⟨by simpa using HT7.out, HL7.out, HO7.out, HLt.out, HSz.out⟩)
            go_wp2_with (at_builtin; refine wpList_append_own_none rfl _ _ 43 rfl U 9 i0 1 Try.underlying43 hi _ _ _ rfl HO7.out rfl ?_)
            go_roundw
            case rel => exact ⟨n + 1, t, by go_num, by omega, ht, by omega, HR7, HB7⟩
            case measure => simp [intOf]; omega
          · rw [hlen] at hu
            obtain ⟨S, hS⟩ : ∃ S, S = ((xs.drop t).take k).map Value.string := ⟨_, rfl⟩
            obtain ⟨P, hP⟩ : ∃ P, P = (xs.take t).map Value.string := ⟨_, rfl⟩
            have HS := Lib.hid (show S = ((xs.drop t).take k).map Value.string ∧ P = (xs.take t).map Value.string ∧ S.length = k ∧ ∀ u ∈ S, u.oneCell' = true from ⟨hS, hP, by rw [hS, List.length_map, hlen], fun u hu => by rw [hS] at hu; obtain ⟨y, _, rfl⟩ := List.mem_map.1 hu; rfl⟩)
            rw [← hS] at hu
            have ho8 := HO7.out
            rw [← hP] at ho8
            obtain ⟨g, cap, rfl, hgb, hgc⟩ := own_cell hu (by omega)
            have HCl := Lib.hid (show ∀ (j' : Nat) (u : Value), S[j']? = some u → w7.cell? ((⟨g, 0, none⟩ : Addr).add j') = some u from fun j' u hu => by
              have := hgc j' u hu
              rw [show (⟨g, 0, none⟩ : Addr).add j' = ⟨g, j', none⟩ by unfold Addr.add; split <;> simp_all]
              exact this)
            have HO8 := Lib.hid ho8
            clear hu hun ht7 hl7 ho7 hs7 hb7 HM6 HB6 hlen hS hP ho8 hgc hgb
            go_wp2_with (at_builtin; refine wpList_append_own _ rfl _ _ 43 rfl U 9 i0 zS 1 16 Try.underlying43 hi hz0 hz1 hz2 rfl (by decide) _ _ _ rfl HO8.out ⟨g, 0, none⟩ k cap S rfl ?c1 HCl.out ?c2 ?c3 ?c4 ?c5 ?_)
            case c1 => rw [HS.out.2.2.1, Nat.mul_one]
            case c2 => exact HS.out.2.2.2
            case c3 => unfold maxLen; omega
            case c4 => omega
            case c5 => exact HSz.out.1
            · intro v' w8 hown8 hg8 _
              have h8 := TxR.app (u := v') HT7.out HL7.out HO7.out HLt.out HSz.out (by rw [← HS.out.1, ← HS.out.2.1]; exact hown8) hg8
              have HR8 := Lib.hid h8.1
              have HB8 := Lib.hid (HB7.out.trans h8.2)
              clear hown8 hg8 h8 HT7 HL7 HO7 HB7 HCl HO8
              go_wp2_with fail
              go_roundw
              case rel => exact ⟨n + 1, t + k, by go_num, by omega, by omega, by omega, HR8, HB8⟩
              case measure => simp [intOf]; omega
        · have htl : t = xs.length := by omega
          have hne : ¬ (n : Int) < 200 := by omega
          subst htl
          have h9 := HR.out.own
          rw [List.take_length] at h9
          obtain ⟨A2, c2, rfl, hA2⟩ := strs_ofQ h9
          have HA2 := Lib.hid hA2
          clear h9 hA2 hnt ht
          go_wp2_with fail
          refine (moveS_same q 5 _).mono ?_
          rintro e wx ⟨rfl, rfl⟩
          go_wp2_with fail
          go_loopw [15] (fun v wz => ∃ (j : Nat), v = .int .i64 j ∧ j ≤ xs.length ∧ Hid (StrsQ wz A2 xs) ∧ Hid (Below w.heap.size w wz)) (fun v _ => xs.length - (intOf v).toNat)
          case atStart => exact ⟨0, rfl, Nat.zero_le _, HA2, HB5⟩
          case round =>
            clear HA2 HB5
            obtain ⟨j, rfl, hj, HA2, HB9⟩ := hrel
            by_cases hlt : j < xs.length
            · obtain ⟨b, off, rfl, hbb, c00⟩ := (HX.out.kept HB9.out).at hlt
              obtain ⟨b', off', rfl, hbb', d00⟩ := HA2.out.at hlt
              generalize xs[j] = x at c00 d00
              have hd := Below.drew (Below.refl wr.heap.size wr)
              have HA3 := Lib.hid (HA2.out.kept hd)
              have HB3 := Lib.hid (bt HB9.out hd)
              have hi0 : (0 : Int) ≤ (j : Int) := Int.natCast_nonneg _
              have hi1 : (j : Int) < (xs.length : Int) := by omega
              clear hbb hbb' hd
              go_wp2_with fail
              go_region
              all_goals
                go_wp2_with fail
                go_roundw
                case rel => exact ⟨j + 1, by go_num, hlt, HA3, HB3⟩
                case measure => simp [intOf]; omega
            · go_wp2_with fail
              go_ret
              exact ⟨rfl, HB9.out⟩
set_option maxRecDepth 100000 in
set_option maxHeartbeats 2000000 in
theorem queueTexts_out (A : Option Addr) (cc : Nat) (xs : List ByteArray) (room piece : Int) (w : World) (hl : xs.length ≤ 9223372036854775807) (h : 100 < xs.length ∨ room < 1 ∨ 1024 < room ∨ piece < 1) :
    Calls Try.prog 5 #[.slice A xs.length cc, .int .i64 room, .int .i64 piece] w fun e w' => e = .returned (.bool true) ∧ Below w.heap.size w w' := by
  by_cases h1 : 100 < xs.length
  · have hli : (100 : Int) < (xs.length : Int) := by omega
    go_enter Try.func5, Try.ntmps5
    go_wp2_with fail
    refine (lives7_yes w).mono ?_
    rintro e w1 ⟨rfl, hb1⟩
    have HB1 := Lib.hid hb1
    clear hb1
    go_wp2_with fail
    go_ret
    exact ⟨rfl, HB1.out⟩
  · have hli : (xs.length : Int) ≤ (100 : Int) := by omega
    by_cases h2 : room < 1
    · go_enter Try.func5, Try.ntmps5
      go_wp2_with fail
      refine (lives7_yes w).mono ?_
      rintro e w1 ⟨rfl, hb1⟩
      have HB1 := Lib.hid hb1
      clear hb1
      go_wp2_with fail
      go_ret
      exact ⟨rfl, HB1.out⟩
    · by_cases h3 : 1024 < room
      · go_enter Try.func5, Try.ntmps5
        go_wp2_with fail
        refine (lives7_yes w).mono ?_
        rintro e w1 ⟨rfl, hb1⟩
        have HB1 := Lib.hid hb1
        clear hb1
        go_wp2_with fail
        go_ret
        exact ⟨rfl, HB1.out⟩
      · have h4 : piece < 1 := by omega
        go_enter Try.func5, Try.ntmps5
        go_wp2_with fail
        refine (lives7_yes w).mono ?_
        rintro e w1 ⟨rfl, hb1⟩
        have HB1 := Lib.hid hb1
        clear hb1
        go_wp2_with fail
        go_ret
        exact ⟨rfl, HB1.out⟩
theorem queueTexts_walk (A : Option Addr) (cc : Nat) (xs : List ByteArray) (room piece : Int) (w : World) (hx : StrsQ w A xs) (hl : xs.length ≤ 9223372036854775807) :
    Calls Try.prog 5 #[.slice A xs.length cc, .int .i64 room, .int .i64 piece] w fun e w' => e = .returned (.bool true) ∧ Below w.heap.size w w' := by
  by_cases h : xs.length ≤ 100 ∧ 1 ≤ room ∧ room ≤ 1024 ∧ 1 ≤ piece
  · exact queueTexts_in A cc xs room piece w hx h.2.1 h.2.2.1 h.1 h.2.2.2
  · exact queueTexts_out A cc xs room piece w hl (by omega)
end Go.Proofs.Ythimgldohhaimaa
