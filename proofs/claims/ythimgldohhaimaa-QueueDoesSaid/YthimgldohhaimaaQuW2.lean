/-
  The walk of QueueOrders.
-/
import Derived.Test.YthimgldohhaimaaQu8
import Derived.Laws.AppendOwnNone
import Derived.Deep.CutRange
import Derived.Deep.DeepCutAuto
import Derived.Deep.CutBlock
namespace Go.Proofs.Ythimgldohhaimaa
open Go.RowKit Go.Conc

theorem own_cat {w : World} {B : Nat} {v : Value} {I O X : List Int} (h : w.ownsRow B 3 1 v (O.length + X.length) (O.map (Value.int .i64) ++ X.map (Value.int .i64))) (hI : I = O ++ X) : w.ownsRow B 3 1 v I.length (I.map (Value.int .i64)) := by
  subst hI
  rw [List.length_append, List.map_append]; exact h
theorem qo_new (n : Int) (h0 : 1 ≤ n) (h1 : n ≤ 1024) (w : World) : Calls Try.prog 12 #[.int .i64 n] w fun e w' => (∃ q c, e = .returned (.tuple #[.pointer (some ⟨q, 0, none⟩), .int .i64 0]) ∧ QatI w.heap.size w' q c ⟨n.toNat, [], false⟩) ∧ Below w.heap.size w w' := by
  refine (newI_any n w).mono ?_
  rintro e w' ⟨hb, h⟩
  rw [if_pos ⟨h0, h1⟩] at h
  exact ⟨h, hb⟩
theorem qo_no (n : Int) (h : ¬ (1 ≤ n ∧ n ≤ 1024)) (w : World) : Calls Try.prog 12 #[.int .i64 n] w fun e w' => e = .returned (.tuple #[.pointer none, .int .i64 1]) ∧ Below w.heap.size w w' := by
  refine (newI_any n w).mono ?_
  rintro e w' ⟨hb, h1⟩
  rw [if_neg h] at h1
  exact ⟨h1, hb⟩
set_option maxRecDepth 100000 in
set_option maxHeartbeats 4000000 in
theorem queueOrders_out (room every : Int) (A : Option Addr) (c : Nat) (xs : List Int) (w : World) (h : ¬ (1 ≤ room ∧ room ≤ 1024) ∨ 300 < xs.length ∨ every < 1) :
    Calls Try.prog 4 #[.int .i64 room, .slice A xs.length c, .int .i64 every] w fun e w' => e = .returned (.bool true) ∧ Below w.heap.size w w' := by
  by_cases hr : 1 ≤ room ∧ room ≤ 1024
  · have HN := Lib.hid (qo_new room hr.1 hr.2 w)
    have h2 : 300 < xs.length ∨ every < 1 := by rcases h with h | h; exact absurd hr h; exact h
    clear h hr
    go_enter Try.func4, Try.ntmps4
    go_wp2_with fail
    refine HN.out.mono ?_
    rintro e w1 ⟨⟨q, c, rfl, _⟩, hb1⟩
    have HB1 := Lib.hid hb1
    clear hb1
    go_wp2_with fail
    refine (lives7_yes w1).mono ?_
    rintro e w2 ⟨rfl, hb2⟩
    have HB2 := Lib.hid (bt HB1.out hb2)
    clear hb2
    by_cases hl : 300 < xs.length
    · have hli : (300 : Int) < (xs.length : Int) := by omega
      go_wp2_with fail
      refine (lives7_yes w2).mono ?_
      rintro e w3 ⟨rfl, hb3⟩
      have HB3 := Lib.hid (bt HB2.out hb3)
      clear hb3
      go_wp2_with fail
      go_ret
      exact ⟨rfl, HB3.out⟩
    · have hli : (xs.length : Int) ≤ (300 : Int) := by omega
      have he : every < 1 := by rcases h2 with h2 | h2; exact absurd h2 hl; exact h2
      go_wp2_with fail
      refine (lives7_yes w2).mono ?_
      rintro e w3 ⟨rfl, hb3⟩
      have HB3 := Lib.hid (bt HB2.out hb3)
      clear hb3
      go_wp2_with fail
      go_ret
      exact ⟨rfl, HB3.out⟩
  · have HN := Lib.hid (qo_no room hr w)
    clear h hr
    go_enter Try.func4, Try.ntmps4
    go_wp2_with fail
    refine HN.out.mono ?_
    rintro e w1 ⟨rfl, hb1⟩
    have HB1 := Lib.hid hb1
    clear hb1
    go_wp2_with fail
    refine (lives7_yes w1).mono ?_
    rintro e w2 ⟨rfl, hb2⟩
    have HB2 := Lib.hid (bt HB1.out hb2)
    clear hb2
    go_wp2_with fail
    refine (lives7_yes w2).mono ?_
    rintro e w3 ⟨rfl, hb3⟩
    have HB3 := Lib.hid (bt HB2.out hb3)
    clear hb3
    go_wp2_with fail
    go_ret
    exact ⟨rfl, HB3.out⟩
theorem qo_put {B : Nat} {w : World} {q c cap : Nat} {X : List Int} {vi vo : Value} {I O : List Int} (h : QatI B w q c ⟨cap, X.map (Value.int .i64), false⟩) (hT : TwoOwn B w c vi vo I O) (x : Int) (bb : Bool) (hbb : bb = decide (X.length < cap)) :
    Calls Try.prog 17 #[.pointer (some ⟨q, 0, none⟩), .int .i64 x] w fun e w' => e = .returned (.bool bb) ∧ QatI B w' q c ⟨cap, (if X.length < cap then X ++ [x] else X).map (Value.int .i64), false⟩ ∧ TwoOwn B w' c vi vo I O ∧ Below B w w' := by
  by_cases hr : X.length < cap
  · refine (putI_room x h (by rw [List.length_map]; exact hr)).mono ?_
    rintro e w' ⟨rfl, hq, ho, ha⟩
    refine ⟨by rw [hbb, decide_eq_true hr], ?_, hT.call h ho ha, ho.below h.lo.1 h.lo.2 h.lt⟩
    rw [if_pos hr, List.map_append]; exact hq
  · refine (putI_full x h (by rw [List.length_map]; exact hr)).mono ?_
    rintro e w' ⟨rfl, hb⟩
    refine ⟨by rw [hbb, decide_eq_false hr], ?_, hT.below h hb, hb.mono h.lt⟩
    rw [if_neg hr]; exact h.kept hb
theorem qo_take {B : Nat} {w : World} {q c cap : Nat} {X : List Int} {vi vo : Value} {I O : List Int} (h : QatI B w q c ⟨cap, X.map (Value.int .i64), false⟩) (hT : TwoOwn B w c vi vo I O) (bb : Bool) (hbb : bb = decide (0 < X.length)) :
    Calls Try.prog 18 #[.pointer (some ⟨q, 0, none⟩)] w fun e w' => e = .returned (.tuple #[.int .i64 (hdI X), .bool bb]) ∧ QatI B w' q c ⟨cap, X.tail.map (Value.int .i64), false⟩ ∧ TwoOwn B w' c vi vo I O ∧ Below B w w' := by
  refine (takeI_any h X rfl).mono ?_
  rintro e w' ⟨rfl, hq, ho, _, ha⟩
  rw [← hbb]
  exact ⟨rfl, hq, hT.call h ho fun k _ => ha k, ho.below h.lo.1 h.lo.2 h.lt⟩
set_option maxRecDepth 100000 in
set_option maxHeartbeats 8000000 in
theorem queueOrders_in (room every : Int) (A : Option Addr) (cc : Nat) (xs : List Int) (w : World) (hx : IntsQ w A xs) (h0 : 1 ≤ room) (h1 : room ≤ 1024) (hl : xs.length ≤ 300) (he : 1 ≤ every) (hew : every ≤ 9223372036854775807) :
    Calls Try.prog 4 #[.int .i64 room, .slice A xs.length cc, .int .i64 every] w fun e w' => e = .returned (.bool true) ∧ Below w.heap.size w w' := by
  obtain ⟨i0, hi, hz0, hz1, hz2⟩ := info_parts infoI_e
  have HN := Lib.hid (qo_new room h0 h1 w)
  have HX := Lib.hid hx
  have hli : (xs.length : Int) ≤ (300 : Int) := by omega
  clear hx
  go_enter Try.func4, Try.ntmps4
  go_wp2_with fail
  refine HN.out.mono ?_
  rintro e w1 ⟨⟨q, c, rfl, hq1⟩, hb1⟩
  have HQ1 := Lib.hid hq1
  have HB1 := Lib.hid hb1
  clear hb1 hq1 HN
  go_wp2_with fail
  refine (lives7_yes w1).mono ?_
  rintro e w2 ⟨rfl, hb2⟩
  have HQ2 := Lib.hid (HQ1.out.kept hb2)
  have HB2 := Lib.hid (bt HB1.out hb2)
  clear hb2 HQ1 HB1
  have HT2 := Lib.hid (show TwoOwn w.heap.size w2 c (.slice none 0 0) (.slice none 0 0) [] [] from ⟨World.ownsRow_nil _ _ _ _, World.ownsRow_nil _ _ _ _, (by intro k hk; cases hk), (by intro k hk; cases hk), (by intro k hk; cases hk)⟩)
  go_wp2_with fail
  go_loopw [9, 10, 11] (fun vi vo v wr => ∃ (j : Nat) (I O X : List Int), v = .int .i64 j ∧ j ≤ xs.length ∧ Hid (QatI w.heap.size wr q c ⟨room.toNat, X.map (Value.int .i64), false⟩) ∧ Hid (TwoOwn w.heap.size wr c vi vo I O) ∧ Hid (Below w.heap.size w wr) ∧ Hid (I = O ++ X) ∧ I.length ≤ j) (fun _ _ v _ => xs.length - (intOf v).toNat)
  case atStart => exact ⟨0, [], [], [], rfl, Nat.zero_le _, HQ2, HT2, HB2, Lib.hid rfl, Nat.le_refl _⟩
  case round =>
    obtain ⟨j, I, O, X, rfl, hj, HQ, HT, HB, HI, hIl⟩ := hrel
    clear HQ2 HT2 HB2
    by_cases hlt : j < xs.length
    · obtain ⟨b, off, rfl, hbb, c00⟩ := HX.out.at hlt
      generalize xs[j] = x at c00
      have c0 := (HB.out.cell (p := ⟨b, off + j, none⟩) hbb).trans c00
      have HC := Lib.hid (And.intro hbb c00)
      have hOl : O.length ≤ I.length := by rw [HI.out]; simp
      clear c00 hbb
      go_wp2_with fail
      obtain ⟨bb, hbb⟩ : ∃ bb, bb = decide (X.length < room.toNat) := ⟨_, rfl⟩
      have HBb := Lib.hid hbb
      refine (qo_put HQ.out HT.out x bb hbb).mono ?_
      clear hbb
      rintro e w3 ⟨rfl, hq3, ht3, hb3⟩
      obtain ⟨X', hX'⟩ : ∃ X', X' = if X.length < room.toNat then X ++ [x] else X := ⟨_, rfl⟩
      rw [← hX'] at hq3
      have HQ3 := Lib.hid hq3
      have HT3 := Lib.hid ht3
      have HB3 := Lib.hid (HB.out.trans hb3)
      have HXe := Lib.hid hX'
      clear c0 hq3 ht3 hb3 hX' HQ HT HB
      go_upto_if 50 with fail
      go_cut [9] (fun vi' wx => ∃ I' : List Int, Hid (QatI w.heap.size wx q c ⟨room.toNat, X'.map (Value.int .i64), false⟩) ∧ Hid (TwoOwn w.heap.size wx c vi' u10 I' O) ∧ Hid (Below w.heap.size w wx) ∧ Hid (I' = O ++ X') ∧ I'.length ≤ j + 1)
      case first =>
        cases bb with
        | true =>
          have HX2 := Lib.hid (show X' = X ++ [x] by rw [HXe.out, if_pos (of_decide_eq_true HBb.out.symm)])
          have c3 := (HB3.out.cell (p := ⟨b, off + j, none⟩) HC.out.1).trans HC.out.2
          have hs3 := HB3.out.size
          have hal := ba w3 (.cells #[.int .i64 x] 3)
          have HQ4 := Lib.hid (HQ3.out.kept hal)
          have HT4 := Lib.hid (HT3.out.below HQ3.out hal)
          go_wp2_with (at_builtin; refine wpList_append_lies _ rfl _ _ 35 rfl w.heap.size 3 i0 zI 1 8 Try.underlying35 hi hz0 hz1 hz2 rfl (by decide) _ _ _ rfl HT4.out.own1 ⟨w3.heap.size, 0, none⟩ 1 1 [.int .i64 x] rfl rfl ?c1 ?c2 (by decide) ?c3 ?c4 ?c5 _ rfl ?_)
          case c1 =>
            intro j' u hj'
            match j', hj' with
            | 0, hj' => simp at hj'; subst hj'; simp [Addr.add]
          case c2 => intro u hu; simp at hu; subst hu; rfl
          case c3 => unfold maxLen; omega
          case c4 => omega
          case c5 => simp; omega
          · intro g cap w5 hown5 hg5 hgg _
            have h5 := HT4.out.app HQ4.out hown5 hg5 (by rw [World.size_alloc]; exact hgg)
            have HB5 := Lib.hid ((HB3.out.trans (hal.mono hs3)).grown hg5 (by simp; omega) (fun k hk => (HT4.out.own1.lt k hk).1))
            have HT5 := Lib.hid h5.1
            have HQ5 := Lib.hid h5.2
            clear hown5 hg5 hgg h5 hal c3
            go_wp2_with fail
            go_meet
            case rel => exact ⟨I ++ [x], HQ5, HT5, HB5, Lib.hid (by rw [HI.out, HX2.out, List.append_assoc]), by simp; omega⟩
        | false =>
          have HX2 := Lib.hid (show X' = X by rw [HXe.out, if_neg (of_decide_eq_false HBb.out.symm)])
          go_wp2_with fail
          go_meet
          case rel => exact ⟨I, HQ3, HT3, HB3, Lib.hid (by rw [HX2.out, HI.out]), by omega⟩
      case rest =>
        obtain ⟨I', HQ4, HT4, HB4, HI4, hIl4⟩ := hcut
        clear HQ3 HT3 HB3 HXe HBb HI hIl
        have hj0 : (0 : Int) ≤ (j : Int) := Int.natCast_nonneg _
        have hez : (every == 0) = false := by simp; omega
        by_cases hm : (j : Int) % every = 0
        · have hOl4 : O.length ≤ I'.length := by rw [HI4.out]; simp
          go_wp2_with fail
          obtain ⟨bt, hbt⟩ : ∃ bt, bt = decide (0 < X'.length) := ⟨_, rfl⟩
          have HBt := Lib.hid hbt
          refine (qo_take HQ4.out HT4.out bt hbt).mono ?_
          clear hbt
          rintro e w5 ⟨rfl, hq5, ht5, hb5⟩
          have HQ5 := Lib.hid hq5
          have HT5 := Lib.hid ht5
          have HB5 := Lib.hid (HB4.out.trans hb5)
          obtain ⟨y, hy⟩ : ∃ y, y = hdI X' := ⟨_, rfl⟩
          rw [← hy]
          have HY := Lib.hid hy
          clear hq5 ht5 hb5 HQ4 HT4 HB4 hy
          cases bt with
          | true =>
            have HX5 := Lib.hid (show X' = y :: X'.tail by
              have h1 := HBt.out
              rw [HY.out]
              cases hX5 : X' with
              | nil => rw [hX5] at h1; simp at h1
              | cons a r => rfl)
            have hs5 := HB5.out.size
            have hal := ba w5 (.cells #[.int .i64 y] 3)
            have HQ6 := Lib.hid (HQ5.out.kept hal)
            have HT6 := Lib.hid (HT5.out.below HQ5.out hal)
            go_wp2_with (at_builtin; refine wpList_append_lies _ rfl _ _ 35 rfl w.heap.size 3 i0 zI 1 8 Try.underlying35 hi hz0 hz1 hz2 rfl (by decide) _ _ _ rfl HT6.out.own2 ⟨w5.heap.size, 0, none⟩ 1 1 [.int .i64 y] rfl rfl ?c1 ?c2 (by decide) ?c3 ?c4 ?c5 _ rfl ?_)
            case c1 =>
              intro j' u hj'
              match j', hj' with
              | 0, hj' => simp at hj'; subst hj'; simp [Addr.add]
            case c2 => intro u hu; simp at hu; subst hu; rfl
            case c3 => unfold maxLen; omega
            case c4 => omega
            case c5 => simp; omega
            · intro g cap w7 hown7 hg7 hgg _
              have h7 := HT6.out.swap.app HQ6.out hown7 hg7 (by rw [World.size_alloc]; exact hgg)
              have HB7 := Lib.hid ((HB5.out.trans (hal.mono hs5)).grown hg7 (by simp; omega) (fun k hk => (HT6.out.own2.lt k hk).1))
              have HT7 := Lib.hid h7.1.swap
              have HQ7 := Lib.hid h7.2
              clear hown7 hg7 hgg h7 hal
              go_wp2_with fail
              go_roundw
              case rel => exact ⟨j + 1, I', O ++ [y], X'.tail, by go_num, by omega, HQ7, HT7, HB7, Lib.hid (by rw [HI4.out, List.append_assoc, List.singleton_append, ← HX5.out]), hIl4⟩
              case measure => simp [intOf]; omega
          | false =>
            have HX5 := Lib.hid (show X'.tail = X' by
              have h1 := HBt.out
              cases hX5 : X' with
              | nil => rfl
              | cons a r => rw [hX5] at h1; simp at h1)
            rw [HX5.out] at HQ5
            go_wp2_with fail
            go_roundw
            case rel => exact ⟨j + 1, I', O, X', by go_num, by omega, HQ5, HT5, HB5, HI4, hIl4⟩
            case measure => simp [intOf]; omega
        · have hmb : ((j : Int) % every == 0) = false := by simp [hm]
          go_wp2_with fail
          go_roundw
          case rel => exact ⟨j + 1, I', O, X', by go_num, by omega, HQ4, HT4, HB4, HI4, hIl4⟩
          case measure => simp [intOf]; omega
    · have hOl4 : O.length ≤ I.length := by rw [HI.out]; simp
      have hIX : I.length = O.length + X.length := by rw [HI.out]; simp
      go_wp2_with fail
      refine (allI_any X HQ.out).mono ?_
      rintro e w3 ⟨v, rfl, hov, hq3, ho3, hnil⟩
      have HT3 := Lib.hid (HT.out.call HQ.out ho3 fun k _ _ => hq3.away_nil k)
      have HB3 := Lib.hid (HB.out.trans (ho3.below HQ.out.lo.1 HQ.out.lo.2 HQ.out.lt))
      have HQ3 := Lib.hid hq3
      have HV := Lib.hid hov
      have HNil := Lib.hid hnil
      have hs3 := HB3.out.size
      clear hov hq3 ho3 hnil HQ HT HB
      by_cases hX0 : X = []
      · obtain rfl := HNil.out hX0
        have HIO := Lib.hid (show I = O by rw [HI.out, hX0, List.append_nil])
        obtain ⟨A1, c1, rfl, hA1⟩ := ints_ofQ HT3.out.own1
        obtain ⟨A2, c2, rfl, hA2⟩ := ints_ofQ HT3.out.own2
        have HA1 := Lib.hid hA1
        have HA2 := Lib.hid (show IntsQ w3 A2 I by rw [HIO.out]; exact hA2)
        have hlo : I.length = O.length := by rw [HIO.out]
        clear hA1 hA2
        go_wp2_with (at_builtin; refine wpList_append_own_none rfl _ _ 35 rfl w.heap.size 3 i0 1 Try.underlying35 hi _ _ _ rfl HT3.out.own2 rfl ?_)
        refine (same7_any A1 A2 _ _ _ I w3 (by omega) HA1.out HA2.out (by omega)).mono ?_
        rintro e w4 ⟨rfl, hb4⟩
        have HB4 := Lib.hid (bt HB3.out hb4)
        have HQ4 := Lib.hid (HQ3.out.kept hb4)
        clear hb4
        go_wp2_with fail
        refine (lenI_any HQ4.out).mono ?_
        rintro e wx ⟨rfl, rfl⟩
        go_wp2_with fail
        go_ret
        exact ⟨rfl, HB4.out⟩
      · have hXl : 0 < X.length := List.length_pos_iff.2 hX0
        obtain ⟨g, cap, rfl, hgb, hgc⟩ := own_cell HV.out hXl
        have hcells : ∀ (j' : Nat) (u : Value), (X.map (Value.int .i64))[j']? = some u → w3.cell? ((⟨g, 0, none⟩ : Addr).add j') = some u := fun j' u hu => by
          have := hgc j' u hu
          rw [show (⟨g, 0, none⟩ : Addr).add j' = ⟨g, j', none⟩ by unfold Addr.add; split <;> simp_all]
          exact this
        have HCl := Lib.hid hcells
        clear hgc hcells
        go_wp2_with (at_builtin; refine wpList_append_own _ rfl _ _ 35 rfl w.heap.size 3 i0 zI 1 8 Try.underlying35 hi hz0 hz1 hz2 rfl (by decide) _ _ _ rfl HT3.out.own2 ⟨g, 0, none⟩ X.length cap (X.map (Value.int .i64)) rfl ?c1 HCl.out ?c2 ?c3 ?c4 ?c5 ?_)
        case c1 => simp
        case c2 => intro u hu; obtain ⟨n, _, rfl⟩ := List.mem_map.1 hu; rfl
        case c3 => unfold maxLen; omega
        case c4 => omega
        case c5 => exact hs3
        · intro v' w5 hown5 hg5 _
          have h5 := HQ3.out.grown hg5 fun k hk => ⟨(HQ3.out.own_ne HT3.out.own2 (by decide) hk).1, (HQ3.out.own_ne HT3.out.own2 (by decide) hk).2, HT3.out.aw2 k hk⟩
          have HQ5 := Lib.hid h5.1
          have HB5 := Lib.hid (HB3.out.grown hg5 hs3 (fun k hk => (HT3.out.own2.lt k hk).1))
          have hk1 : w5.ownsRow w.heap.size 3 1 u9 I.length (I.map (Value.int .i64)) := by
            refine HT3.out.own1.kept hg5 ?_
            cases hv : u9.ownBlock with
            | none => exact .inl rfl
            | some k => exact .inr (fun e => HT3.out.apart k hv e.symm)
          obtain ⟨A1, c1, rfl, hA1⟩ := ints_ofQ hk1
          have hown6 := own_cat hown5 HI.out
          obtain ⟨A2, c2, rfl, hA2⟩ := ints_ofQ hown6
          have HA1 := Lib.hid hA1
          have HA2 := Lib.hid hA2
          clear hown5 hg5 h5 hk1 hown6 hA1 hA2 hIX hOl4
          go_wp2_with fail
          refine (same7_any A1 A2 I.length _ _ I w5 rfl HA1.out HA2.out (by omega)).mono ?_
          rintro e w6 ⟨rfl, hb6⟩
          have HB6 := Lib.hid (bt HB5.out hb6)
          have HQ6 := Lib.hid (HQ5.out.kept hb6)
          clear hb6
          go_wp2_with fail
          refine (lenI_any HQ6.out).mono ?_
          rintro e wx ⟨rfl, rfl⟩
          go_wp2_with fail
          go_ret
          exact ⟨rfl, HB6.out⟩
theorem queueOrders_walk (A : Option Addr) (cc : Nat) (xs : List Int) (room every : Int) (w : World) (hx : IntsQ w A xs) (hew : every ≤ 9223372036854775807) :
    Calls Try.prog 4 #[.int .i64 room, .slice A xs.length cc, .int .i64 every] w fun e w' => e = .returned (.bool true) ∧ Below w.heap.size w w' := by
  by_cases h : (1 ≤ room ∧ room ≤ 1024) ∧ xs.length ≤ 300 ∧ 1 ≤ every
  · exact queueOrders_in room every A cc xs w hx h.1.1 h.1.2 h.2.1 h.2.2 hew
  · exact queueOrders_out room every A cc xs w (by omega)
end Go.Proofs.Ythimgldohhaimaa
