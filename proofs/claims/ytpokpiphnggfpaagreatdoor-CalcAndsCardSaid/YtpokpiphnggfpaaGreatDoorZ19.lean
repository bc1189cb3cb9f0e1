/-
  CalcAnds (P16.1): for any expressions and any row the law returns true, and each argument reads afterwards as before; the tied card, no further condition.
-/
import Derived.Test.YtpokpiphnggfpaaGreatDoorZ18
import Derived.WalkKit
import Derived.ProofKit
import Derived.Carry
import Derived.OpenShut
import Derived.Deep.DeepHandedRow
import Derived.Deep.Grids
import Derived.Deep.SlicePairs
import Derived.Deep.Strs
import Derived.ChangeSlices
import Derived.Lib.SmallJoins
import Derived.Test.YtpokpiphnggfpaaGreatDoorCards
import Derived.Test.YtpokpiphnggfpaaGreatDoorTie
import Derived.Lib.LaidU8
import Derived.Shelf.Vars
section
namespace Go.Proofs.YtpokpiphnggfpaaGreatDoor
open Go.RowKit Go.Shelf
attribute [local go_sem] Oper.semAt_some

theorem andE_andX (x : Ex) (l : List Ex) : l.foldl andE x = l.foldl andX x := rfl
set_option maxHeartbeats 2000000 in
theorem refAll_nil (A : Option Addr) (cap : Nat) (w : World) :
    Calls Tryz.prog 9 #[.slice A 0 cap] w (EBack w (allX [])) := by
  have HX := Lib.hid (MapKept.heap_alloc w x0).1
  go_enter Tryz.func9, Tryz.ntmps9
  go_wp2_with fail
  refine (refBool_true _).mono ?_
  rintro e w1 ⟨rfl, hb1⟩
  have HB1 := Lib.hid (bt (ba w x0) hb1)
  have HX1 := Lib.hid ((hb1.block w.heap.size (by rw [World.size_alloc]; omega)).trans HX.out)
  clear hb1
  go_wp2_with fail
  refine (refLit_any 1 1 ⟨#[]⟩ _).mono ?_
  rintro e w2 ⟨rfl, hb2⟩
  have HB2 := Lib.hid (bt HB1.out hb2)
  have hx2 := (hb2.block w.heap.size (by have := (Array.getElem?_eq_some_iff.1 HX1.out).1; omega)).trans HX1.out
  clear hb2
  obtain ⟨⟨c0, c1, c2, c3, c4, c5, c6, c7⟩, f0, f1, f2, f3, f4, f5, f6, f7⟩ := cell8 hx2
  have HZ := Lib.hid (set8_box hx2 (.int .i64 1) (.int .i64 0) (.int .i64 1) (.int .i64 1) (.string ⟨#[]⟩) (.string ⟨#[]⟩) (.string ⟨#[]⟩) (.slice none 0 0))
  clear hx2
  go_wp2_with fail
  obtain ⟨⟨q0, q1, q2, q3, q4, q5, q6, q7⟩, _⟩ := cell8 HZ.out
  refine bodyPost_ret (v := XV (hdL 1 1 ⟨#[]⟩) none 0 0) (by simp [results, Tryz.results9, go_sem, q0, q1, q2, q3, q4, q5, q6, q7]) rfl ⟨none, 0, rfl, Nat.le_refl _, ?_, ?_⟩
  · rw [XsAt]; show XsB _ _ [] _; rw [XsB]; trivial
  · exact set8_below HB2.out (Nat.le_refl _) _ _ _ _ _ _ _ _
theorem refAll_ev {l : List Ex} {A : Option Addr} {cap : Nat} {w : World} (hX : XsAt w.heap.size w l A) (hl : l.length ≤ 1000) :
    Calls Tryz.prog 9 #[.slice A l.length cap] w (EBack w (allX l)) := by
  cases l with
  | nil => exact refAll_nil A cap w
  | cons x r => exact refAll_any x r A cap w hX (by simpa using Nat.le_of_succ_le hl)
mutual
theorem knd_agg : ∀ x : Ex, (kndX 4 x).length = 0 ↔ hasA x = false
  | .mk h l => by
    have := knds_agg l
    rw [kndX, hasA, List.length_append, Bool.or_eq_false_iff, ← this]
    by_cases hk : h.k = 4
    · simp [hk]
    · simp [hk]
theorem knds_agg : ∀ l : List Ex, (kndXs 4 l).length = 0 ↔ hasAs l = false
  | [] => by simp [kndXs, hasAs]
  | x :: r => by
    have h1 := knd_agg x
    have h2 := knds_agg r
    rw [kndXs, hasAs, List.length_append, Bool.or_eq_false_iff, ← h1, ← h2]
    omega
end
set_option maxHeartbeats 4000000 in
theorem refMay_any (h : Hd) (l : List Ex) (A : Option Addr) (cap : Nat) (w : World) (hX : XsAt w.heap.size w l A) (hcap : l.length ≤ cap) (hsm : AllSm (.mk h l)) (hc : cnt (.mk h l) ≤ 1000) :
    Calls Tryz.prog 10 #[XV h A l.length cap] w fun e w' => e = .returned (.int .i64 (mayI (.mk h l))) ∧ Below w.heap.size w w' := by
  have hba := ba w (xbox h A l.length cap)
  have HX := Lib.hid ((MapKept.heap_alloc w (xbox h A l.length cap)).1)
  have HB := Lib.hid hba
  have HC := rv_check (x := .mk h l) (w := w.alloc (xbox h A l.length cap)) ⟨A, cap, rfl, hcap, hX.next hba⟩ hsm (by omega) rfl
  have HK := Lib.hid (fun w1 (hb : Below w.heap.size w w1) => refKinds_n 4 w1.heap.size 1000 h l hc (by omega) w1 A cap (hX.next hb) hcap (Nat.le_refl _))
  have HL := Lib.hid (knd_agg (.mk h l))
  obtain ⟨m, hm⟩ : ∃ m, mayI (.mk h l) = m := ⟨_, rfl⟩
  rw [hm]
  have HM := Lib.hid hm
  clear hX hba hsm hc hm
  cases hok : okX (.mk h l)
  · rw [hok] at HC
    have HC := Lib.hid HC
    have HO := Lib.hid hok
    clear hok
    obtain ⟨⟨c0, c1, c2, c3, c4, c5, c6, c7⟩, _⟩ := cell8 HX.out
    go_enter Tryz.func10, Tryz.ntmps10
    go_wp2_with fail
    refine HC.out.mono ?_
    rintro e w1 ⟨_, rfl, hb, rfl⟩
    have HB1 := Lib.hid (bt HB.out hb)
    clear hb
    go_wp2_with fail
    go_ret
    exact ⟨by rw [← HM.out, mayI, HO.out]; rfl, HB1.out⟩
  · rw [hok] at HC
    have HC := Lib.hid HC
    have HO := Lib.hid hok
    clear hok
    obtain ⟨⟨c0, c1, c2, c3, c4, c5, c6, c7⟩, _⟩ := cell8 HX.out
    go_enter Tryz.func10, Tryz.ntmps10
    go_wp2_with fail
    refine HC.out.mono ?_
    rintro e w1 ⟨_, rfl, hb, rfl⟩
    have HB1 := Lib.hid (bt HB.out hb)
    have HX1 := Lib.hid ((hb.block _ (Array.getElem?_eq_some_iff.1 HX.out).1).trans HX.out)
    clear hb c0 c1 c2 c3 c4 c5 c6 c7
    obtain ⟨⟨c0, c1, c2, c3, c4, c5, c6, c7⟩, _⟩ := cell8 HX1.out
    go_wp2_with fail
    refine (HK.out _ HB1.out).mono ?_
    rintro e w2 ⟨v, rfl, hY⟩
    obtain ⟨A2, cap2, rfl⟩ := hY.slice
    have HB2 := Lib.hid (bt HB1.out hY.bel)
    clear hY c0 c1 c2 c3 c4 c5 c6 c7
    cases hag : hasA (.mk h l)
    · have h0 := HL.out.2 hag
      have HG := Lib.hid hag
      clear hag
      go_wp2_with fail
      go_ret
      exact ⟨by rw [← HM.out, mayI, HO.out, HG.out]; rfl, HB2.out⟩
    · have h0 : 0 < (kndX 4 (.mk h l)).length := Nat.pos_of_ne_zero fun e => by have := HL.out.1 e; rw [hag] at this; cases this
      have HG := Lib.hid hag
      clear hag
      go_wp2_with fail
      go_ret
      exact ⟨by rw [← HM.out, mayI, HO.out, HG.out]; rfl, HB2.out⟩
theorem large16_any (A : Option Addr) (n c : Nat) (w : World) {b : Bool} (h : decide ((100 : Int) < (n : Int)) = b) :
    Calls Tryz.prog 4 #[.slice A n c] w fun e w' => e = .returned (.bool b) ∧ Below w.heap.size w w' := by
  subst h
  go_enter Tryz.func4, Tryz.ntmps4
  go_wp2_with fail
  go_ret
  exact ⟨rfl, Below.refl _ _⟩
/-- What Holds answers, in the form in which the law asks it. -/
theorem ho2_three (r : List Va) (x : Ex) : (ho2 r x = .tuple #[.bool true, .int .i64 0] ∧ mayI x = 0 ∧ holdO r x = some true) ∨ (ho2 r x = .tuple #[.bool false, .int .i64 0] ∧ mayI x = 0 ∧ holdO r x = some false) ∨ ∃ G : Int, G ≠ 0 ∧ ho2 r x = .tuple #[.bool false, .int .i64 G] := by
  by_cases hm : mayI x = 0
  · rw [ho2, if_pos hm]
    cases hv : holdO r x with
    | none => exact .inr (.inr ⟨160, by decide, rfl⟩)
    | some b =>
      cases b
      · exact .inr (.inl ⟨rfl, hm, rfl⟩)
      · exact .inl ⟨rfl, hm, rfl⟩
  · rw [ho2, if_neg hm]
    exact .inr (.inr ⟨_, hm, rfl⟩)
/-- What the law knows from part to part. -/
structure An (w W : World) (l : List Ex) (A : Option Addr) (r : List Va) (Ar : Option Addr) (j : Nat) (a n : Bool) : Prop where
  bel : Below w.heap.size w W
  all : a = true → ∀ x ∈ l.take j, holdO r x = some true
  no : n = true → ∃ x ∈ l, okX x = true ∧ errsX x = false ∧ holdO r x = some false
theorem An.next {w W W' : World} {l : List Ex} {A : Option Addr} {r : List Va} {Ar : Option Addr} {j : Nat} {a n : Bool} (H : An w W l A r Ar j a n) (hb : Below W.heap.size W W') : An w W' l A r Ar j a n := ⟨bt H.bel hb, H.all, H.no⟩
theorem mem_take {l : List Ex} {j : Nat} {x y : Ex} (hx : l[j]? = some x) (h : y ∈ l.take (j + 1)) : y ∈ l.take j ∨ y = x := by
  obtain ⟨hj, rfl⟩ := List.getElem?_eq_some_iff.1 hx
  rw [List.take_succ_eq_append_getElem hj] at h
  rcases List.mem_append.1 h with h | h
  · exact .inl h
  · exact .inr (by simpa using h)
theorem An.yes {w W : World} {l : List Ex} {A : Option Addr} {r : List Va} {Ar : Option Addr} {j : Nat} {a n : Bool} (H : An w W l A r Ar j a n) {x : Ex} (hx : l[j]? = some x) (h : holdO r x = some true) : An w W l A r Ar (j + 1) a n :=
  ⟨H.bel, fun ha y hy => by
    rcases mem_take hx hy with h' | rfl
    · exact H.all ha y h'
    · exact h, H.no⟩
theorem An.other {w W : World} {l : List Ex} {A : Option Addr} {r : List Va} {Ar : Option Addr} {j : Nat} {a n : Bool} (H : An w W l A r Ar j a n) : An w W l A r Ar (j + 1) false n := ⟨H.bel, fun h => (by cases h), H.no⟩
theorem An.not {w W : World} {l : List Ex} {A : Option Addr} {r : List Va} {Ar : Option Addr} {j : Nat} {a n b : Bool} (H : An w W l A r Ar j a n) {x : Ex} (hx : l[j]? = some x) (ho : okX x = true) (he : b = true → errsX x = false) (h : holdO r x = some false) : An w W l A r Ar (j + 1) false b :=
  ⟨H.bel, fun h => (by cases h), fun hb => ⟨x, List.mem_of_getElem? hx, ho, he hb, h⟩⟩
theorem hold_lit (r : List Va) : holdO r (allX []) = some true := by
  have hs : safeB (.mk (hdL 1 1 ⟨#[]⟩) []) = true := by kernel_rfl
  have hk : ¬ ((hdL 1 1 ⟨#[]⟩).k = 3 ∧ (hdL 1 1 ⟨#[]⟩).n = 2) := by rintro ⟨h, _⟩; cases h
  show sqB (hldX r true (.mk (hdL 1 1 ⟨#[]⟩) [])) (hldX r false (.mk (hdL 1 1 ⟨#[]⟩) [])) = some true
  rw [hlds_one hk, hlds_one hk, hs, if_pos rfl, if_neg (by decide), comX_mk]
  have h1 : topA r (hdL 1 1 ⟨#[]⟩) (comXs r []) = some ⟨1, 1, ⟨#[]⟩⟩ := by unfold topA; simp
  have h2 : sqB (trueA (some (⟨1, 1, ⟨#[]⟩⟩ : Va))) (some true) = some true := by kernel_rfl
  rw [h1]
  exact h2
theorem An.end_all {w W : World} {l : List Ex} {A : Option Addr} {r : List Va} {Ar : Option Addr} {n : Bool} (H : An w W l A r Ar l.length true n) : holdO r (allX l) = some true := by
  have h := H.all rfl
  rw [List.take_length] at h
  cases l with
  | nil => exact hold_lit r
  | cons x l => exact hold_all h
theorem An.end_no {w W : World} {l : List Ex} {A : Option Addr} {r : List Va} {Ar : Option Addr} {j : Nat} {a : Bool} (H : An w W l A r Ar j a true) (hm : mayI (allX l) = 0) : holdO r (allX l) = some false := by
  obtain ⟨y, hy, ho, he, hf⟩ := H.no rfl
  cases l with
  | nil => cases hy
  | cons x l => exact hold_no (may_zero hm).1 hy ho he hf
theorem blk_keptC {W W' : World} {u : Nat} {o : Obj} (h : W.heap[u]? = some o) (hb : Below W.heap.size W W') : W'.heap[u]? = some o := (hb.block u (Array.getElem?_eq_some_iff.1 h).1).trans h
set_option maxRecDepth 100000 in
set_option maxHeartbeats 16000000 in
theorem calcAnds_walk (l : List Ex) (A : Option Addr) (cap : Nat) (r : List Va) (Ar : Option Addr) (rc : Nat) (w : World) (hX : XsAt w.heap.size w l A) (hR : RowAt w Ar r) (hfine : Fine r) (hrl : r.length ≤ 9223372036854775807) (hV : TabV w) (hT : Tabs w)
    (hL : ∀ w1, Below w.heap.size w w1 → Calls Tryz.prog 5 #[] w1 fun e w' => e = .returned (.bool true) ∧ Below w1.heap.size w1 w') :
    Calls Tryz.prog 3 #[.slice A l.length cap, .slice Ar r.length rc] w fun e w' => e = .returned (.bool true) ∧ Below w.heap.size w w' := by
  have HV := Lib.hid hL
  have HXs := Lib.hid hX
  have HHo := Lib.hid (fun h l' A' cap' w1 (hb : Below w.heap.size w w1) hx hcap' hsm hc => holds_any r Ar rc hrl hfine h l' A' cap' w1 hx hcap' hsm hc (hR.kept hb) (hV.kept hb) (hT.kept hb))
  have H0 := Lib.hid (show An w w l A r Ar 0 true false from ⟨Below.refl _ _, fun _ x hx => (by cases hx), fun h => (by cases h)⟩)
  clear hX hR hV hT hL hfine
  by_cases hr : (100 : Int) < (r.length : Int)
  · have HLg := Lib.hid (large16_any Ar r.length rc w (b := true) (decide_eq_true hr))
    go_enter Tryz.func3, Tryz.ntmps3
    go_wp2_with fail
    refine HLg.out.mono ?_
    rintro e w1 ⟨rfl, hb⟩
    have HBr := Lib.hid hb
    clear hb
    go_wp2_with fail
    refine (HV.out _ HBr.out).mono ?_
    rintro e w9 ⟨rfl, hb⟩
    have HB9 := Lib.hid (bt HBr.out hb)
    clear hb
    go_wp2_with fail
    go_ret
    exact ⟨rfl, HB9.out⟩
  have HLg := Lib.hid (large16_any Ar r.length rc w (b := false) (decide_eq_false hr))
  by_cases hl : (10 : Int) < (l.length : Int)
  · go_enter Tryz.func3, Tryz.ntmps3
    go_wp2_with fail
    refine HLg.out.mono ?_
    rintro e w1 ⟨rfl, hb⟩
    have HBr := Lib.hid hb
    clear hb
    go_wp2_with fail
    refine (HV.out _ HBr.out).mono ?_
    rintro e w9 ⟨rfl, hb⟩
    have HB9 := Lib.hid (bt HBr.out hb)
    clear hb
    go_wp2_with fail
    go_ret
    exact ⟨rfl, HB9.out⟩
  go_enter Tryz.func3, Tryz.ntmps3
  go_wp2_with fail
  refine HLg.out.mono ?_
  rintro e w1 ⟨rfl, hb⟩
  have H0 := Lib.hid (H0.out.next hb)
  clear HLg hb
  go_wp2_with fail
  go_loopw [7, 5, 6] (fun i a n wr => ∃ (j : Nat) (av nv : Bool), j ≤ l.length ∧ i = .int .i64 j ∧ a = .bool av ∧ n = .bool nv ∧ Hid (An w wr l A r Ar j av nv)) (fun i _ _ _ => l.length - (intOf i).toNat)
  case atStart => exact ⟨0, true, false, Nat.zero_le _, rfl, rfl, rfl, H0⟩
  case round =>
    obtain ⟨j, av, nv, hj, rfl, rfl, rfl, HS⟩ := hrel
    clear H0
    by_cases hlt : j < l.length
    · obtain ⟨h', l', g, o, A2, cap2, hx, rfl, hg, hxc, hle, hx2⟩ := kid_at HXs.out HS.out.bel hlt
      obtain ⟨a0, a1, a2, a3, a4, a5, a6, a7⟩ := hxc
      have HXe := Lib.hid hx
      have HX2 := Lib.hid hx2
      have HG := Lib.hid hg
      have HC := Lib.hid (show XC wr g (o + j * 8) h' A2 l'.length cap2 from ⟨a0, a1, a2, a3, a4, a5, a6, a7⟩)
      clear hx hx2 hg
      go_wp2_with fail
      refine (large_any h' l' wr A2 cap2 HX2.out).mono ?_
      rintro e w2 ⟨rfl, hb⟩
      have HS2 := Lib.hid (HS.out.next hb)
      have HX3 := Lib.hid (HX2.out.next hb)
      have HC3 := Lib.hid (HC.out.of (hb.block g HG.out))
      have HG3 := Lib.hid (Nat.lt_of_lt_of_le HG.out hb.size)
      clear hb a0 a1 a2 a3 a4 a5 a6 a7 HS HX2 HC HG
      cases hla : largeB (.mk h' l')
      rotate_left 1
      · clear HC3 HX3
        go_wp2_with fail
        refine (HV.out _ HS2.out.bel).mono ?_
        rintro e w9 ⟨rfl, hb⟩
        have HB9 := Lib.hid (bt HS2.out.bel hb)
        clear hb
        go_wp2_with fail
        go_ret
        exact ⟨rfl, HB9.out⟩
      obtain ⟨hsm, hcn⟩ := large_no hla
      obtain ⟨a0, a1, a2, a3, a4, a5, a6, a7⟩ := HC3.out
      have HH := HHo.out h' l' A2 cap2 w2 HS2.out.bel HX3.out hle hsm (by omega)
      have HN := Lib.hid hcn
      clear hla hsm hcn
      rcases ho2_three r (.mk h' l') with ⟨e1, hm, hh⟩ | ⟨e1, hm, hh⟩ | ⟨G, hG, e1⟩
      · have HHh := Lib.hid hh
        clear hm hh
        rw [e1] at HH
        have HH := Lib.hid HH
        clear e1
        go_wp2_with fail
        refine HH.out.mono ?_
        rintro e w3 ⟨rfl, hb⟩
        have HS3 := Lib.hid (HS2.out.next hb)
        have HX4 := Lib.hid (HX3.out.next hb)
        have HC4 := Lib.hid (HC3.out.of (hb.block g HG3.out))
        clear hb a0 a1 a2 a3 a4 a5 a6 a7 HS2 HX3 HC3 HG3 HH
        have HE := Lib.hid (HS3.out.yes HXe.out HHh.out)
        clear HX4 HC4
        cases av
        all_goals cases nv
        all_goals
          go_wp2_with fail
          go_roundw
          case rel => exact ⟨j + 1, _, _, by omega, by go_num, rfl, rfl, HE⟩
          case measure => simp [intOf]; omega
      · have HHh := Lib.hid hh
        have HM := Lib.hid (may_zero hm).1
        clear hm hh
        rw [e1] at HH
        have HH := Lib.hid HH
        clear e1
        go_wp2_with fail
        refine HH.out.mono ?_
        rintro e w3 ⟨rfl, hb⟩
        have HS3 := Lib.hid (HS2.out.next hb)
        have HX4 := Lib.hid (HX3.out.next hb)
        have HC4 := Lib.hid (HC3.out.of (hb.block g HG3.out))
        clear hb a0 a1 a2 a3 a4 a5 a6 a7 HS2 HX3 HC3 HG3 HH
        cases nv
        · obtain ⟨a0, a1, a2, a3, a4, a5, a6, a7⟩ := HC4.out
          have HSf := Lib.hid (rv_safe (x := .mk h' l') (v := XV h' A2 l'.length cap2) (w := w3) ⟨A2, cap2, rfl, hle, HX4.out⟩ (by have := HN.out; omega) rfl)
          have HE := Lib.hid (HS3.out.not (b := !errsX (.mk h' l')) HXe.out HM.out (fun h => by simpa using h) HHh.out)
          generalize (!errsX (.mk h' l')) = sb at HSf HE
          clear HX4 HC4
          cases av
          all_goals
            go_wp2_with fail
            refine HSf.out.mono ?_
            rintro e w4 ⟨_, rfl, hb, rfl⟩
            have HE := Lib.hid (HE.out.next hb)
            clear hb a0 a1 a2 a3 a4 a5 a6 a7
            cases sb
            all_goals
              go_wp2_with fail
              go_roundw
              case rel => exact ⟨j + 1, _, _, by omega, by go_num, rfl, rfl, HE⟩
              case measure => simp [intOf]; omega

        · have HE := Lib.hid (HS3.out.other)
          clear HX4 HC4
          cases av
          all_goals
            go_wp2_with fail
            go_roundw
            case rel => exact ⟨j + 1, _, _, by omega, by go_num, rfl, rfl, HE⟩
            case measure => simp [intOf]; omega
      · have hGb : (G == 0) = false := by simpa using hG
        rw [e1] at HH
        have HH := Lib.hid HH
        clear e1
        go_wp2_with fail
        refine HH.out.mono ?_
        rintro e w3 ⟨rfl, hb⟩
        have HS3 := Lib.hid (HS2.out.next hb)
        have HX4 := Lib.hid (HX3.out.next hb)
        have HC4 := Lib.hid (HC3.out.of (hb.block g HG3.out))
        clear hb a0 a1 a2 a3 a4 a5 a6 a7 HS2 HX3 HC3 HG3 HH
        have HE := Lib.hid (HS3.out.other)
        clear HX4 HC4
        cases av
        all_goals cases nv
        all_goals
          go_wp2_with fail
          go_roundw
          case rel => exact ⟨j + 1, _, _, by omega, by go_num, rfl, rfl, HE⟩
          case measure => simp [intOf]; omega
    · obtain rfl : j = l.length := by omega
      have HXl := Lib.hid (XsAt.next HXs.out HS.out.bel)
      go_wp2_with fail
      refine (refAll_ev (cap := cap) HXl.out (by omega)).mono ?_
      rintro e w2 ⟨A3, cap3, rfl, hl3, hx3, hb⟩
      have HE1 := fun h : av = true => An.end_all (h ▸ HS.out)
      have HE2 := fun (h : nv = true) hm => An.end_no (h ▸ HS.out) hm
      obtain ⟨X, hXe⟩ : ∃ X, allX l = X := ⟨_, rfl⟩
      rw [hXe] at hl3 hx3 HE1 HE2 ⊢
      obtain ⟨hX, lX⟩ := X
      simp only [Ex.hd, Ex.kids] at hl3 hx3 ⊢
      have HB2 := Lib.hid (bt HS.out.bel hb)
      have HE1 := Lib.hid HE1
      have HE2 := Lib.hid HE2
      have hbx := ba w2 (xbox hX A3 lX.length cap3)
      have HXb := Lib.hid ((MapKept.heap_alloc w2 (xbox hX A3 lX.length cap3)).1)
      have HB3 := Lib.hid (bt HB2.out hbx)
      have HX3 := Lib.hid (hx3.next hbx)
      clear hb hx3 hbx HB2 HS HXl hXe
      go_upto_region 13 with fail
      generalize hU : w2.heap.size = ux at HXb ⊢
      generalize hWW : w2.alloc (.cells #[.int .i64 hX.k, .int .i64 hX.n, .int .i64 hX.vk, .int .i64 hX.vn, .string hX.vs, .string hX.tab, .string hX.col, .slice A3 lX.length cap3] 30) = W at HXb HB3 HX3 ⊢
      clear hWW hU
      obtain ⟨⟨x0, x1, x2, x3, x4, x5, x6, x7⟩, _⟩ := cell8 HXb.out
      go_wp2_with fail
      refine (HV.out _ HB3.out).mono ?_
      rintro e w4 ⟨rfl, hb⟩
      have HB4 := Lib.hid (bt HB3.out hb)
      have HX4 := Lib.hid (HX3.out.next hb)
      have HXb4 := Lib.hid (blk_keptC HXb.out hb)
      clear hb x0 x1 x2 x3 x4 x5 x6 x7 HB3 HX3 HXb
      obtain ⟨⟨x0, x1, x2, x3, x4, x5, x6, x7⟩, _⟩ := cell8 HXb4.out
      go_wp2_with fail
      refine (large_any hX lX w4 A3 cap3 HX4.out).mono ?_
      rintro e w5 ⟨rfl, hb⟩
      have HB5 := Lib.hid (bt HB4.out hb)
      have HX5 := Lib.hid (HX4.out.next hb)
      have HXb5 := Lib.hid (blk_keptC HXb4.out hb)
      clear hb x0 x1 x2 x3 x4 x5 x6 x7 HB4 HX4 HXb4
      cases hla : largeB (.mk hX lX)
      rotate_left 1
      · clear HE1 HE2 HX5 HXb5
        go_wp2_with fail
        refine (HV.out _ HB5.out).mono ?_
        rintro e w9 ⟨rfl, hb⟩
        have HB9 := Lib.hid (bt HB5.out hb)
        clear hb
        go_wp2_with fail
        go_ret
        exact ⟨rfl, HB9.out⟩
      obtain ⟨hsm, hcn⟩ := large_no hla
      have HMy := Lib.hid (refMay_any hX lX A3 cap3 w5 HX5.out hl3 hsm hcn)
      have HHX := Lib.hid (fun w1 hb hx => HHo.out hX lX A3 cap3 w1 hb hx hl3 hsm (by omega))
      clear hla hsm hcn
      obtain ⟨⟨x0, x1, x2, x3, x4, x5, x6, x7⟩, _⟩ := cell8 HXb5.out
      go_wp2_with fail
      refine HMy.out.mono ?_
      rintro e w6 ⟨rfl, hb⟩
      have HB6 := Lib.hid (bt HB5.out hb)
      have HX6 := Lib.hid (HX5.out.next hb)
      have HXb6 := Lib.hid (blk_keptC HXb5.out hb)
      clear hb x0 x1 x2 x3 x4 x5 x6 x7 HB5 HX5 HXb5 HMy
      by_cases hm : mayI (.mk hX lX) = 0
      rotate_left 1
      · have hmb : (mayI (.mk hX lX) != 0) = true := by simpa using hm
        clear HE1 HE2 HX6 HXb6 HHX
        go_wp2_with fail
        refine (HV.out _ HB6.out).mono ?_
        rintro e w9 ⟨rfl, hb⟩
        have HB9 := Lib.hid (bt HB6.out hb)
        clear hb
        go_wp2_with fail
        go_ret
        exact ⟨rfl, HB9.out⟩
      have HEn := Lib.hid (fun h => HE2.out h hm)
      have hmb : (mayI (.mk hX lX) != 0) = false := by simpa using hm
      have HH := HHX.out w6 HB6.out HX6.out
      obtain ⟨⟨x0, x1, x2, x3, x4, x5, x6, x7⟩, _⟩ := cell8 HXb6.out
      clear HE2 HHX
      rcases ho2_three r (.mk hX lX) with ⟨e1, _, hh⟩ | ⟨e1, _, hh⟩ | ⟨G, hG, e1⟩
      · obtain rfl : nv = false := by
          cases hn : nv
          · rfl
          · have := HEn.out hn; rw [hh] at this; cases this
        rw [e1] at HH
        have HH := Lib.hid HH
        clear e1 hh hm HEn HE1
        go_wp2_with fail
        refine HH.out.mono ?_
        rintro e w7 ⟨rfl, hb⟩
        have HB7 := Lib.hid (bt HB6.out hb)
        clear hb x0 x1 x2 x3 x4 x5 x6 x7 HB6 HX6 HXb6 HH
        cases av
        all_goals
          go_wp2_with fail
          go_ret
          exact ⟨rfl, HB7.out⟩
      · obtain rfl : av = false := by
          cases ha : av
          · rfl
          · have := HE1.out ha; rw [hh] at this; cases this
        rw [e1] at HH
        have HH := Lib.hid HH
        clear e1 hh hm HEn HE1
        go_wp2_with fail
        refine HH.out.mono ?_
        rintro e w7 ⟨rfl, hb⟩
        have HB7 := Lib.hid (bt HB6.out hb)
        clear hb x0 x1 x2 x3 x4 x5 x6 x7 HB6 HX6 HXb6 HH
        cases nv
        all_goals
          go_wp2_with fail
          go_ret
          exact ⟨rfl, HB7.out⟩
      · have hno : ∀ b, holdO r (.mk hX lX) = some b → False := fun b hh => by
          rw [ho2, if_pos hm, hh] at e1
          simp only [ah2] at e1
          have := congrArg (fun v : Value => match v with | .tuple x => x[1]? | _ => none) e1
          simp at this
          exact hG this.symm
        obtain rfl : av = false := by
          cases ha : av
          · rfl
          · exact (hno _ (HE1.out ha)).elim
        obtain rfl : nv = false := by
          cases hn : nv
          · rfl
          · exact (hno _ (HEn.out hn)).elim
        rw [e1] at HH
        have HH := Lib.hid HH
        clear e1 hm HEn HE1 hno
        go_wp2_with fail
        refine HH.out.mono ?_
        rintro e w7 ⟨rfl, hb⟩
        have HB7 := Lib.hid (bt HB6.out hb)
        clear hb x0 x1 x2 x3 x4 x5 x6 x7 HB6 HX6 HXb6 HH
        go_wp2_with fail
        go_ret
        exact ⟨rfl, HB7.out⟩
end Go.Proofs.YtpokpiphnggfpaaGreatDoor
end
section
namespace Go.Proofs.YtpokpiphnggfpaaGreatDoor
open Go.ChangeShapes Go.WideShapes Go.ChangeAt Go.RowKit

section
variable {H : Type} {enc : TypeId × Value → H} {P : Program}

theorem belowAll (hl : laidOutB P = true) {W W' : World} (hb : Below W.heap.size W W') :
    ∀ {ts : List TypeId} {vs : List Value} {ds : List (DataW H)} {ps : List MemPlace}, (ts.all fun t => P.readableRec t && decide (t < P.types.size)) = true →
      DataW.TrodAll enc P W 0 (fun _ => true) true ts vs ds ps → (∀ x ∈ ps, x.block < W.heap.size) → DataW.TrodAll enc P W' 0 (fun b => decide (b < W.heap.size)) true ts vs ds ps
  | [], [], [], _, _, h, _ => h
  | [], [], _ :: _, _, _, h, _ => h.elim
  | [], _ :: _, _, _, _, h, _ => h.elim
  | _ :: _, [], _, _, _, h, _ => h.elim
  | _ :: _, _ :: _, [], _, _, h, _ => h.elim
  | t :: ts, v :: vs, d :: ds, ps, hr, h, hlt => by
    obtain ⟨p, q, h1, h2, rfl⟩ := h
    simp only [List.all_cons, Bool.and_eq_true, decide_eq_true_eq] at hr
    exact ⟨p, q, Below.trod hl hr.1.1 hr.1.2 h1 hb (fun x hx => hlt x (by simp [hx])), belowAll hl hb (by simpa using hr.2) h2 (fun x hx => hlt x (by simp [hx])), rfl⟩

/-- THE END OF A LAW's WALK IS ALL THAT ITS ROW ASKS. -/
theorem law_post {f : Func} {s : ChangeSpec} {W W' : World} {args : Array Value} {ds gs : List (DataW H)} {before : List MemPlace} {tb : TypeId} (hl : laidOutB P = true)
    (hts : (f.params.toList.all fun t => P.readableRec t && decide (t < P.types.size)) = true) (hres : f.resultTypes = #[tb]) (htb : P.underlying tb = some .bool)
    (hvars : s.vars = []) (hfn : s.fn H ds = { results := [.lit (.bool true)], args := ds })
    (hW : DataW.Whole enc P f.params.toList s.vars false W args.toList ds gs before) (hb : Below W.heap.size W W') :
    s.post enc P f false true false false W args (.bool true) W' := by
  have hW0 := hW
  obtain ⟨p, q, hA, hV, rfl, _, _⟩ := hW
  rw [hvars] at hV
  obtain ⟨rfl, rfl⟩ := trodVars_none hV
  refine ⟨ds, [], p ++ [], [], p, [], hW0, ?_, ?_, ?_, hb.frame _, fun h => by cases h⟩
  · rw [hres, List.append_nil, hfn]
    exact trodAll_mk1 (shut_bool htb _)
  · rw [List.append_nil, hfn]
    exact belowAll hl hb hts hA (fun x hx => by simpa using hW0.lt x (by simp [hx]))
  · rw [hvars, List.append_nil, hfn]
    rfl
end
end Go.Proofs.YtpokpiphnggfpaaGreatDoor
end
section
namespace Go.Proofs.YtpokpiphnggfpaaGreatDoor
section
open Go.ChangeShapes Go.WideShapes Go.ChangeAt Go.RowKit Go.Joins Go.Deep

theorem XsB.each {B : Nat → Prop} {w : World} {g : Nat} (hg : B g) : ∀ {l : List Ex} {o : Nat}, (∀ i h l', l[i]? = some (.mk h l') → ∃ A' cap, XC w g (o + i * 8) h A' l'.length cap ∧ l'.length ≤ cap ∧ XsB B w l' A') → XsB B w l (some ⟨g, o, none⟩)
  | [], o, _ => by rw [XsB]; trivial
  | .mk h l :: r, o, H => by
    rw [XsB]
    obtain ⟨A', cap, hc, hl, hx⟩ := H 0 h l rfl
    refine ⟨g, o, rfl, hg, ⟨A', cap, by simpa using hc, hl, hx⟩, XsB.each hg fun i h' l' hi => ?_⟩
    obtain ⟨A2, cap2, hc2, hl2, hx2⟩ := H (i + 1) h' l' (by simpa using hi)
    exact ⟨A2, cap2, by rw [show o + 8 + i * 8 = o + (i + 1) * 8 by omega]; exact hc2, hl2, hx2⟩
theorem spotX {W : World} {a : Addr} {v : Value} (h : W.cell? (a.add 0) = some v) : a = ⟨a.block, a.off, none⟩ := by
  obtain ⟨b, o, s⟩ := a
  have : s = none := by simpa [Addr.add] using World.cell?_spot h
  subst this; rfl
theorem plainX (b o i : Nat) : (⟨b, o, none⟩ : Addr).add i = ⟨b, o + i, none⟩ := by unfold Addr.add; split <;> simp_all
instance : Inhabited Ex := ⟨.mk ⟨0, 0, 0, 0, ⟨#[]⟩, ⟨#[]⟩, ⟨#[]⟩⟩ []⟩
section
variable {H : Type} {enc : TypeId × Value → H}
theorem cExpr : Tryz.prog.cellsOf 30 = 8 := by kernel_rfl
theorem cExprs : Tryz.prog.cellsOf 22 = 1 := by kernel_rfl
theorem cIntX : Tryz.prog.cellsOf 3 = 1 := by kernel_rfl
theorem cStrX : Tryz.prog.cellsOf 9 = 1 := by kernel_rfl
theorem cValX : Tryz.prog.cellsOf 28 = 3 := by kernel_rfl
set_option maxRecDepth 100000 in
theorem val_cells {W : World} {fuel : Nat} {v0 v1 v2 : Value} {x : DataW H × List MemPlace} (h : DataW.trod enc Tryz.prog W 0 (fun _ => true) true fuel 28 [v0, v1, v2] = some x) :
    ∃ (k n : Int) (s : ByteArray), v0 = .int .i64 k ∧ v1 = .int .i64 n ∧ v2 = .string s := by
  obtain ⟨y0, y1, y2, n', _, _, g0, g1, g2⟩ := trod_struct3 Tryz.underlying28 h
  simp [cIntX, cStrX] at g0 g1 g2
  obtain ⟨k, q0, _, _⟩ := DataW.trod_int Tryz.underlying3 g0
  obtain ⟨n, q1, _, _⟩ := DataW.trod_int Tryz.underlying3 g1
  obtain ⟨s, q2, _⟩ := DataW.trod_string Tryz.underlying9 g2
  simp at q0 q1 q2
  exact ⟨k, n, s, q0, q1, q2⟩
def CellsEx (W : World) (cs : List Value) (h : Hd) (l : List Ex) : Prop :=
  ∃ A cap, cs = [.int .i64 h.k, .int .i64 h.n, .int .i64 h.vk, .int .i64 h.vn, .string h.vs, .string h.tab, .string h.col, .slice A l.length cap] ∧ l.length ≤ cap ∧ XsAt W.heap.size W l A
set_option maxRecDepth 100000 in
theorem ex_cells {W : World} : ∀ (fuel : Nat) (cs : List Value) (x : DataW H × List MemPlace), DataW.trod enc Tryz.prog W 0 (fun _ => true) true fuel 30 cs = some x → ∃ h l, CellsEx W cs h l := by
  intro fuel
  induction fuel using Nat.strongRecOn with
  | _ fuel ih =>
    intro cs x h
    obtain ⟨xs, n, rfl, _, hlen, hxl, hf⟩ := DataW.trod_struct Tryz.underlying30 h
    rw [cExpr] at hlen
    match cs, hlen, hf with
    | [c0, c1, c2, c3, c4, c5, c6, c7], _, hf =>
      have hget : ∀ i, i < 6 → ∃ y, xs[i]? = some y := fun i hi => ⟨_, List.getElem?_eq_getElem (by rw [hxl]; exact hi)⟩
      obtain ⟨z0, e0⟩ := hget 0 (by omega)
      obtain ⟨z1, e1⟩ := hget 1 (by omega)
      obtain ⟨z2, e2⟩ := hget 2 (by omega)
      obtain ⟨z3, e3⟩ := hget 3 (by omega)
      obtain ⟨z4, e4⟩ := hget 4 (by omega)
      obtain ⟨z5, e5⟩ := hget 5 (by omega)
      have g0 := (hf 0 _ rfl).trans e0
      have g1 := (hf 1 _ rfl).trans e1
      have g2 := (hf 2 _ rfl).trans e2
      have g3 := (hf 3 _ rfl).trans e3
      have g4 := (hf 4 _ rfl).trans e4
      have g5 := (hf 5 _ rfl).trans e5
      clear hf hget e0 e1 e2 e3 e4 e5
      simp [cIntX, cStrX, cValX, cExprs] at g0 g1 g2 g3 g4 g5
      obtain ⟨k, q0, _, _⟩ := DataW.trod_int Tryz.underlying3 g0
      obtain ⟨n0, q1, _, _⟩ := DataW.trod_int Tryz.underlying3 g1
      obtain ⟨vk, vn, vs, rfl, rfl, rfl⟩ := val_cells g2
      obtain ⟨tab, q3, _⟩ := DataW.trod_string Tryz.underlying9 g3
      obtain ⟨col, q4, _⟩ := DataW.trod_string Tryz.underlying9 g4
      simp at q0 q1 q3 q4
      subst q0 q1 q3 q4
      rcases DataW.trod_slice Tryz.underlying22 g5 with ⟨hcs, _⟩ | ⟨a, len, cap, elems, rest, n', hn', hcs, _, _, hl, hm, hel, hx, _, _⟩
      · simp at hcs
        subst hcs
        exact ⟨⟨k, n0, vk, vn, vs, tab, col⟩, [], none, 0, rfl, Nat.le_refl _, by rw [XsAt, XsB]; trivial⟩
      · simp at hcs
        subst hcs
        have each : ∀ i, i < len → ∃ e : Ex, ∃ A' cap', W.cell? (a.add (i * 8)) = some (.int .i64 e.hd.k) ∧ W.cell? (a.add (i * 8 + 1)) = some (.int .i64 e.hd.n) ∧ W.cell? (a.add (i * 8 + 2)) = some (.int .i64 e.hd.vk) ∧ W.cell? (a.add (i * 8 + 3)) = some (.int .i64 e.hd.vn) ∧
            W.cell? (a.add (i * 8 + 4)) = some (.string e.hd.vs) ∧ W.cell? (a.add (i * 8 + 5)) = some (.string e.hd.tab) ∧ W.cell? (a.add (i * 8 + 6)) = some (.string e.hd.col) ∧ W.cell? (a.add (i * 8 + 7)) = some (.slice A' e.kids.length cap') ∧ e.kids.length ≤ cap' ∧ XsAt W.heap.size W e.kids A' := by
          intro i hi
          have h1 := hx i hi
          obtain ⟨z, hz⟩ : ∃ z, elems[i]? = some z := ⟨_, List.getElem?_eq_getElem (by rw [hel]; exact hi)⟩
          rw [hz, cExpr] at h1
          obtain ⟨cs', h2, h3⟩ := Option.bind_eq_some_iff.1 h1
          obtain ⟨_, _, hcell⟩ := World.cells?_some h2
          obtain ⟨h', l', A', cap', rfl, hl', hx'⟩ := ih n' (by omega) cs' z h3
          have e0 := hcell 0 (by omega)
          have e1 := hcell 1 (by omega)
          have e2 := hcell 2 (by omega)
          have e3 := hcell 3 (by omega)
          have e4 := hcell 4 (by omega)
          have e5 := hcell 5 (by omega)
          have e6 := hcell 6 (by omega)
          have e7 := hcell 7 (by omega)
          rw [add_add] at e0 e1 e2 e3 e4 e5 e6 e7
          exact ⟨.mk h' l', A', cap', by simpa [Ex.hd] using e0, by simpa [Ex.hd] using e1, by simpa [Ex.hd] using e2, by simpa [Ex.hd] using e3, by simpa [Ex.hd] using e4, by simpa [Ex.hd] using e5, by simpa [Ex.hd] using e6, by simpa [Ex.kids] using e7, hl', hx'⟩
        obtain ⟨f, hf⟩ := choose_lt each
        refine ⟨⟨k, n0, vk, vn, vs, tab, col⟩, (List.range len).map f, some a, cap, by simp, by simpa using hl, ?_⟩
        rcases Nat.eq_zero_or_pos len with h0 | h0
        · subst h0
          rw [List.range_zero, List.map_nil, XsAt, XsB]; trivial
        · obtain ⟨A0, cap0, hc0, _⟩ := hf 0 h0
          have ha := spotX (by simpa using hc0)
          have hlt := World.block_lt_of_cell? W _ hc0
          generalize a.block = b at ha
          generalize a.off = o at ha
          subst ha
          rw [plainX] at hlt
          refine XsB.each (B := fun k => k < W.heap.size) hlt fun i h' l' hi => ?_
          rw [List.getElem?_map] at hi
          obtain ⟨j, hj, hje⟩ := Option.map_eq_some_iff.1 hi
          obtain ⟨hjl, hjj⟩ := List.getElem?_eq_some_iff.1 hj
          simp at hjj hjl
          subst hjj
          obtain ⟨A', cap', q0, q1, q2, q3, q4, q5, q6, q7, hl', hx'⟩ := hf i hjl
          rw [hje] at q0 q1 q2 q3 q4 q5 q6 q7 hl' hx'
          simp only [plainX, ← Nat.add_assoc] at q0 q1 q2 q3 q4 q5 q6 q7
          exact ⟨A', cap', ⟨q0, q1, q2, q3, q4, q5, q6, q7⟩, hl', hx'⟩
theorem array8 {α : Type} {a : Array α} (h : a.size = 8) : ∃ c0 c1 c2 c3 c4 c5 c6 c7, a = #[c0, c1, c2, c3, c4, c5, c6, c7] := by
  obtain ⟨l⟩ := a
  match l, h with
  | [c0, c1, c2, c3, c4, c5, c6, c7], _ => exact ⟨c0, c1, c2, c3, c4, c5, c6, c7, rfl⟩
set_option maxRecDepth 100000 in
theorem open_ex {W : World} {base : Nat} {v : Value} {d : DataW H} {p : List MemPlace} (hval : Value.okWide Tryz.prog W .any base 30 v) (h : DataW.Trod enc Tryz.prog W 0 (fun _ => true) true 30 v d p) :
    ∃ h l A cap, v = XV h A l.length cap ∧ l.length ≤ cap ∧ XsAt W.heap.size W l A := by
  obtain ⟨cs, rfl, hsz⟩ := okWide_struct Tryz.underlying30 hval
  obtain ⟨c0, c1, c2, c3, c4, c5, c6, c7, rfl⟩ := array8 (hsz.trans cExpr)
  obtain ⟨fuel, hf⟩ := h
  obtain ⟨h, l, A, cap, e, hl, hx⟩ := ex_cells fuel _ _ (by simpa [Value.cells] using hf)
  simp only [List.cons.injEq, and_true] at e
  obtain ⟨rfl, rfl, rfl, rfl, rfl, rfl, rfl, rfl⟩ := e
  exact ⟨h, l, A, cap, rfl, hl, hx⟩
set_option maxRecDepth 100000 in
theorem exs_cells {W : World} {fuel : Nat} {cs : List Value} {x : DataW H × List MemPlace} (h : DataW.trod enc Tryz.prog W 0 (fun _ => true) true fuel 22 cs = some x) :
    ∃ (l : List Ex) (A : Option Addr) (cap : Nat), cs = [.slice A l.length cap] ∧ l.length ≤ cap ∧ cap ≤ maxLen ∧ XsAt W.heap.size W l A := by
  rcases DataW.trod_slice Tryz.underlying22 h with ⟨hcs, _⟩ | ⟨a, len, cap, elems, rest, n', hn', hcs, _, _, hl, hm, hel, hx, _, _⟩
  · exact ⟨[], none, 0, hcs, Nat.le_refl _, Nat.zero_le _, by rw [XsAt, XsB]; trivial⟩
  · have each : ∀ i, i < len → ∃ e : Ex, ∃ A' cap', W.cell? (a.add (i * 8)) = some (.int .i64 e.hd.k) ∧ W.cell? (a.add (i * 8 + 1)) = some (.int .i64 e.hd.n) ∧ W.cell? (a.add (i * 8 + 2)) = some (.int .i64 e.hd.vk) ∧ W.cell? (a.add (i * 8 + 3)) = some (.int .i64 e.hd.vn) ∧
        W.cell? (a.add (i * 8 + 4)) = some (.string e.hd.vs) ∧ W.cell? (a.add (i * 8 + 5)) = some (.string e.hd.tab) ∧ W.cell? (a.add (i * 8 + 6)) = some (.string e.hd.col) ∧ W.cell? (a.add (i * 8 + 7)) = some (.slice A' e.kids.length cap') ∧ e.kids.length ≤ cap' ∧ XsAt W.heap.size W e.kids A' := by
      intro i hi
      have h1 := hx i hi
      obtain ⟨z, hz⟩ : ∃ z, elems[i]? = some z := ⟨_, List.getElem?_eq_getElem (by rw [hel]; exact hi)⟩
      rw [hz, cExpr] at h1
      obtain ⟨cs', h2, h3⟩ := Option.bind_eq_some_iff.1 h1
      obtain ⟨_, _, hcell⟩ := World.cells?_some h2
      obtain ⟨h', l', A', cap', rfl, hl', hx'⟩ := ex_cells n' cs' z h3
      have e0 := hcell 0 (by omega)
      have e1 := hcell 1 (by omega)
      have e2 := hcell 2 (by omega)
      have e3 := hcell 3 (by omega)
      have e4 := hcell 4 (by omega)
      have e5 := hcell 5 (by omega)
      have e6 := hcell 6 (by omega)
      have e7 := hcell 7 (by omega)
      rw [add_add] at e0 e1 e2 e3 e4 e5 e6 e7
      exact ⟨.mk h' l', A', cap', by simpa [Ex.hd] using e0, by simpa [Ex.hd] using e1, by simpa [Ex.hd] using e2, by simpa [Ex.hd] using e3, by simpa [Ex.hd] using e4, by simpa [Ex.hd] using e5, by simpa [Ex.hd] using e6, by simpa [Ex.kids] using e7, hl', hx'⟩
    obtain ⟨f, hf⟩ := choose_lt each
    refine ⟨(List.range len).map f, some a, cap, by simpa using hcs, by simpa using hl, hm, ?_⟩
    rcases Nat.eq_zero_or_pos len with h0 | h0
    · subst h0
      rw [List.range_zero, List.map_nil, XsAt, XsB]; trivial
    · obtain ⟨A0, cap0, hc0, _⟩ := hf 0 h0
      have ha := spotX (by simpa using hc0)
      have hlt := World.block_lt_of_cell? W _ hc0
      generalize a.block = b at ha
      generalize a.off = o at ha
      subst ha
      rw [plainX] at hlt
      refine XsB.each (B := fun k => k < W.heap.size) hlt fun i h' l' hi => ?_
      rw [List.getElem?_map] at hi
      obtain ⟨j, hj, hje⟩ := Option.map_eq_some_iff.1 hi
      obtain ⟨hjl, hjj⟩ := List.getElem?_eq_some_iff.1 hj
      simp at hjj hjl
      subst hjj
      obtain ⟨A', cap', q0, q1, q2, q3, q4, q5, q6, q7, hl', hx'⟩ := hf i hjl
      rw [hje] at q0 q1 q2 q3 q4 q5 q6 q7 hl' hx'
      simp only [plainX, ← Nat.add_assoc] at q0 q1 q2 q3 q4 q5 q6 q7
      exact ⟨A', cap', ⟨q0, q1, q2, q3, q4, q5, q6, q7⟩, hl', hx'⟩
set_option maxRecDepth 100000 in
theorem open_exs {W : World} {base : Nat} {v : Value} {d : DataW H} {p : List MemPlace} (hval : Value.okWide Tryz.prog W .any base 22 v) (h : DataW.Trod enc Tryz.prog W 0 (fun _ => true) true 22 v d p) :
    ∃ (l : List Ex) (A : Option Addr) (cap : Nat), v = .slice A l.length cap ∧ l.length ≤ cap ∧ cap ≤ maxLen ∧ XsAt W.heap.size W l A := by
  obtain ⟨a, len, cap, rfl⟩ := okWide_slice Tryz.underlying22 hval
  obtain ⟨fuel, hf⟩ := h
  obtain ⟨l, A, c, e, rest⟩ := exs_cells hf
  refine ⟨l, A, c, ?_, rest⟩
  simpa [Value.cells] using e
end
end
end Go.Proofs.YtpokpiphnggfpaaGreatDoor
end
section
namespace Go.Proofs.YtpokpiphnggfpaaGreatDoor
section
open Go.ChangeShapes Go.WideShapes Go.ChangeAt Go.RowKit Go.Joins Go.Deep
instance : Inhabited Va := ⟨nullA⟩
variable {H : Type} {enc : TypeId × Value → H}
set_option maxRecDepth 100000 in
theorem open_row_cells {W : World} {fuel : Nat} {cs : List Value} {x : DataW H × List MemPlace} (h : DataW.trod enc Tryz.prog W 0 (fun _ => true) true fuel 23 cs = some x) :
    ∃ A c r, cs = [.slice A r.length c] ∧ RowAt W A r ∧ Fine r ∧ (A = none → c = 0) ∧ r.length ≤ c ∧ c ≤ maxLen := by
  rcases open_slice Tryz.underlying23 h with ⟨rfl, _⟩ | ⟨a, len, cap, m, n, D, Pl, rfl, _, hl, hm, hmm, _, hx⟩
  · exact ⟨none, 0, [], rfl, .inl rfl, (fun v hv => by cases hv), (fun _ => rfl), Nat.le_refl _, Nat.zero_le _⟩
  · simp only [if_true] at hmm
    subst hmm
    have each : ∀ i, i < len → ∃ v : Va, W.cell? (a.add (i * 3)) = some (.int .i64 v.k) ∧ W.cell? (a.add (i * 3 + 1)) = some (.int .i64 v.n) ∧ W.cell? (a.add (i * 3 + 2)) = some (.string v.s) ∧ v.s.size ≤ maxLen := by
      intro i hi
      obtain ⟨cs', h1, h2⟩ := hx i (by omega)
      rw [cValX] at h1
      obtain ⟨_, hlen, hcell⟩ := World.cells?_some h1
      obtain ⟨y0, y1, y2, n', _, _, g0, g1, g2⟩ := trod_struct3 Tryz.underlying28 h2
      match cs', hlen with
      | [v0, v1, v2], _ =>
        have e0 := hcell 0 (by omega)
        have e1 := hcell 1 (by omega)
        have e2 := hcell 2 (by omega)
        rw [add_add] at e0 e1 e2
        simp [cIntX, cStrX] at g0 g1 g2
        obtain ⟨k, q0, _, _⟩ := DataW.trod_int Tryz.underlying3 g0
        obtain ⟨n, q1, _, _⟩ := DataW.trod_int Tryz.underlying3 g1
        obtain ⟨s, q2, _, ws⟩ := DataW.trod_string Tryz.underlying9 g2
        simp at q0 q1 q2
        subst q0 q1 q2
        exact ⟨⟨k, n, s⟩, by simpa using e0, by simpa using e1, by simpa using e2, ws⟩
    obtain ⟨f, hf⟩ := choose_lt each
    refine ⟨some a, m, (List.range len).map f, by simp, ?_, ?_, (fun hh => by cases hh), by simpa using hl, hm⟩
    · rcases Nat.eq_zero_or_pos len with h0 | h0
      · subst h0; exact .inl rfl
      · have ha := spotX (by simpa using (hf 0 h0).1)
        generalize a.block = b at ha
        generalize a.off = o at ha
        subst ha
        refine .inr ⟨b, o, rfl, ?_, fun i v hv => ?_⟩
        · have := ltV_of_cell (hf 0 h0).1
          rw [plainX] at this
          exact this
        · rw [List.getElem?_map] at hv
          obtain ⟨j, hj, rfl⟩ := Option.map_eq_some_iff.1 hv
          have hj' := List.getElem?_eq_some_iff.1 hj
          obtain ⟨hjl, hje⟩ := hj'
          simp at hje hjl
          subst hje
          obtain ⟨q0, q1, q2, _⟩ := hf i hjl
          simp only [plainX] at q0 q1 q2
          exact ⟨q0, by rw [Nat.add_assoc]; exact q1, by rw [Nat.add_assoc]; exact q2⟩
    · intro v hv
      simp only [List.mem_map, List.mem_range] at hv
      obtain ⟨i, hi, rfl⟩ := hv
      have := (hf i hi).2.2.2
      simp only [maxLen] at this
      omega

set_option maxRecDepth 100000 in
theorem open_row {W : World} {base : Nat} {v : Value} {d : DataW H} {p : List MemPlace} (hval : Value.okWide Tryz.prog W .any base 23 v) (h : DataW.Trod enc Tryz.prog W 0 (fun _ => true) true 23 v d p) :
    ∃ A c r, v = .slice A r.length c ∧ RowAt W A r ∧ Fine r ∧ (A = none → c = 0) ∧ r.length ≤ c ∧ c ≤ maxLen := by
  obtain ⟨a, len, cap, rfl⟩ := okWide_slice Tryz.underlying23 hval
  obtain ⟨fuel, hf⟩ := h
  obtain ⟨A, c, r, e, rest⟩ := open_row_cells hf
  refine ⟨A, c, r, ?_, rest⟩
  simpa [Value.cells] using e

end
section
open Go.ChangeShapes Go.WideShapes Go.ChangeAt Go.RowKit

theorem own : ownKnob Tryz.prog.godebug = none := by kernel_rfl
theorem laidOut : laidOutB Tryz.prog = true := by kernel_rfl
theorem cRow3 : Tryz.prog.cellsOf 90 = 3 := by kernel_rfl
theorem gKeys : Tryz.prog.globalNamed "commissary/lex.keys" = some 4 := by kernel_rfl
theorem gSigns : Tryz.prog.globalNamed "commissary/lex.signs" = some 3 := by kernel_rfl
theorem gAnds : Tryz.prog.globalNamed "commissary/value.ands" = some 2 := by kernel_rfl
theorem gOrs : Tryz.prog.globalNamed "commissary/value.ors" = some 1 := by kernel_rfl
theorem gNots : Tryz.prog.globalNamed "commissary/value.nots" = some 0 := by kernel_rfl
theorem tKeys : (Tryz.prog.globals[4]?).map (·.type) = some 105 := by kernel_rfl
theorem tSigns : (Tryz.prog.globals[3]?).map (·.type) = some 104 := by kernel_rfl
theorem tAnds : (Tryz.prog.globals[2]?).map (·.type) = some 94 := by kernel_rfl
theorem tOrs : (Tryz.prog.globals[1]?).map (·.type) = some 94 := by kernel_rfl
theorem tNots : (Tryz.prog.globals[0]?).map (·.type) = some 90 := by kernel_rfl

/-- A table of three by three, cell by cell. -/
theorem cells33 {W : World} {name : String} {g : Nat} {l0 l1 l2 : List Int} (hg : Tryz.prog.globalNamed name = some g) (ht : (Tryz.prog.globals[g]?).map (·.type) = some 94)
    (h : Lib.VarReads Tryz.prog W name (.agg [Lib.tabData .i64 l0, Lib.tabData .i64 l1, Lib.tabData .i64 l2])) (h0 : l0.length = 3) (h1 : l1.length = 3) (h2 : l2.length = 3) :
    ∀ j, j < 3 → W.cell? ⟨g, j, none⟩ = some (.int .i64 (l0.getD j 0)) ∧ W.cell? ⟨g, 3 + j, none⟩ = some (.int .i64 (l1.getD j 0)) ∧ W.cell? ⟨g, 6 + j, none⟩ = some (.int .i64 (l2.getD j 0)) := by
  obtain ⟨g', t, cs, fuel, p, hg', ht', hv, hd⟩ := h
  obtain rfl := Option.some.inj (hg.symm.trans hg')
  obtain rfl := Option.some.inj (ht.symm.trans ht')
  have key : ∀ (i : Nat) (l : List Int), i < 3 → l.length = 3 → [Lib.tabData (H := Unit) .i64 l0, Lib.tabData .i64 l1, Lib.tabData .i64 l2][i]? = some (Lib.tabData .i64 l) → ∀ j, j < 3 → W.cell? ⟨g, i * 3 + j, none⟩ = some (.int .i64 (l.getD j 0)) := by
    intro i l hi hl hel j hj
    obtain ⟨fuel', d, q, hdd, hdr⟩ := Lib.array_elem Tryz.underlying94 hd i hi
    rw [hel] at hdd
    obtain rfl := Option.some.inj hdd
    have hc := Lib.cells_of_tab Tryz.underlying90 Tryz.underlying3 cIntX cRow3 hdr
    rw [cRow3] at hc
    rw [World.var?_cell hg hv]
    have e : ((cs.toList.drop (i * 3)).take 3)[j]? = cs.toList[i * 3 + j]? := by
      rw [List.getElem?_take_of_lt hj, List.getElem?_drop]
    rw [← Array.getElem?_toList, ← e, hc]
    simp [List.getD, hl, hj]
  intro j hj
  have a := key 0 l0 (by omega) h0 rfl j hj
  have b := key 1 l1 (by omega) h1 rfl j hj
  have c := key 2 l2 (by omega) h2 rfl j hj
  exact ⟨by simpa using a, by simpa using b, by simpa using c⟩

theorem cells3 {W : World} {name : String} {g : Nat} {l : List Int} (hg : Tryz.prog.globalNamed name = some g) (ht : (Tryz.prog.globals[g]?).map (·.type) = some 90)
    (h : Lib.VarReads Tryz.prog W name (Lib.tabData .i64 l)) (hl : l.length = 3) : ∀ j, j < 3 → W.cell? ⟨g, j, none⟩ = some (.int .i64 (l.getD j 0)) := by
  obtain ⟨g', t, cs, fuel, p, hg', ht', hv, hd⟩ := h
  obtain rfl := Option.some.inj (hg.symm.trans hg')
  obtain rfl := Option.some.inj (ht.symm.trans ht')
  have hc := Lib.cells_of_tab Tryz.underlying90 Tryz.underlying3 cIntX cRow3 hd
  intro j hj
  rw [World.var?_cell hg hv, ← Array.getElem?_toList, hc]
  simp [List.getD, hl, hj]

/-- A table of texts, cell by cell. -/
theorem cellsStr {W : World} {name : String} {g n : Nat} {t : TypeId} {L : List Lx.B} (hg : Tryz.prog.globalNamed name = some g) (ht : (Tryz.prog.globals[g]?).map (·.type) = some t) (hu : Tryz.prog.underlying t = some (.array n 9))
    (h : Lib.VarReads Tryz.prog W name (.agg (L.map fun b => .lit (.string b)))) (j : Nat) (b : Lx.B) (hj : j < n) (hb : L[j]? = some b) : W.cell? ⟨g, j, none⟩ = some (.string ⟨b.toArray⟩) := by
  obtain ⟨g', t', cs, fuel, p, hg', ht', hv, hd⟩ := h
  obtain rfl := Option.some.inj (hg.symm.trans hg')
  obtain rfl := Option.some.inj (ht.symm.trans ht')
  obtain ⟨fuel', d, q, hdd, hdr⟩ := Lib.array_elem hu hd j hj
  rw [List.getElem?_map, hb] at hdd
  obtain rfl := Option.some.inj hdd
  obtain ⟨s, hc, hx, _⟩ := DataW.trod_string Tryz.underlying9 hdr
  have hs : b = s.data.toList := by
    have := congrArg Prod.fst hx
    simpa using this
  have h1 : cs.toList[j]? = some (.string s) := by
    have := congrArg (·[0]?) hc
    simpa [List.getElem?_take, List.getElem?_drop, cStrX] using this
  rw [World.var?_cell hg hv, ← Array.getElem?_toList, h1, hs]

/-- The list that the row bears. -/
abbrev listed : List (String × DataW Unit) := Rows.calcAndsRow.laid
theorem keys_laid : (Rows.laid_commissary_lex_keys : DataW Unit) = .agg (Lx.keys.map fun b => .lit (.string b)) := by kernel_rfl
theorem signs_laid : (Rows.laid_commissary_lex_signs : DataW Unit) = .agg (Lx.signs.map fun b => .lit (.string b)) := by kernel_rfl
theorem tabs_of {W : World} (h : laidMetH Tryz.prog listed W) : Tabs W ∧ TabV W := by
  have hL : laidMet Tryz.prog listed W := h
  have rs : Lib.VarReads Tryz.prog W "commissary/lex.signs" Rows.laid_commissary_lex_signs := Lib.laidMet.reads hL (.head _)
  have rk : Lib.VarReads Tryz.prog W "commissary/lex.keys" Rows.laid_commissary_lex_keys := Lib.laidMet.reads hL (.tail _ (.head _))
  have ra : Lib.VarReads Tryz.prog W "commissary/value.ands" Rows.laid_commissary_value_ands := Lib.laidMet.reads hL (.tail _ (.tail _ (.head _)))
  have ro : Lib.VarReads Tryz.prog W "commissary/value.ors" Rows.laid_commissary_value_ors := Lib.laidMet.reads hL (.tail _ (.tail _ (.tail _ (.head _))))
  have rn : Lib.VarReads Tryz.prog W "commissary/value.nots" Rows.laid_commissary_value_nots := Lib.laidMet.reads hL (.tail _ (.tail _ (.tail _ (.tail _ (.head _)))))
  rw [signs_laid] at rs
  rw [keys_laid] at rk
  have ca := cells33 (l0 := [0, 0, 0]) (l1 := [0, 1, 2]) (l2 := [0, 2, 2]) gAnds tAnds ra rfl rfl rfl
  have co := cells33 (l0 := [0, 1, 2]) (l1 := [1, 1, 1]) (l2 := [2, 1, 2]) gOrs tOrs ro rfl rfl rfl
  have cn := cells3 (l := [1, 0, 2]) gNots tNots rn rfl
  refine ⟨⟨fun j b hb => cellsStr gKeys tKeys Tryz.underlying105 rk j b (by have := (List.getElem?_eq_some_iff.1 hb).1; rwa [keys_len] at this) hb,
    fun j b hb => cellsStr gSigns tSigns Tryz.underlying104 rs j b (List.getElem?_eq_some_iff.1 hb).1 hb, 0, rfl⟩,
    ⟨(ca 0 (by omega)).1, (ca 1 (by omega)).1, (ca 2 (by omega)).1, (ca 0 (by omega)).2.1, (ca 1 (by omega)).2.1, (ca 2 (by omega)).2.1, (ca 0 (by omega)).2.2, (ca 1 (by omega)).2.2, (ca 2 (by omega)).2.2,
    (co 0 (by omega)).1, (co 1 (by omega)).1, (co 2 (by omega)).1, (co 0 (by omega)).2.1, (co 1 (by omega)).2.1, (co 2 (by omega)).2.1, (co 0 (by omega)).2.2, (co 1 (by omega)).2.2, (co 2 (by omega)).2.2,
    cn 0 (by omega), cn 1 (by omega), cn 2 (by omega)⟩⟩

/-- A WORLD FOR THE WITNESS: the settled one, each listed table holding what its initialiser lays. -/
noncomputable def laidWorld (os : Os) : World :=
  let w0 := World.holding Tryz.prog os ⟨#[], #[], []⟩
  let put (h : Array Obj) (g : Nat) (cs : Array Value) : Array Obj := h.modify g fun
    | .cells _ t frozen => .cells cs t frozen
    | o => o
  let ofData (d : DataW Unit) : Array Value := match d with
    | .agg l => (l.flatMap fun
        | .lit (.int k n) => [Value.int k n]
        | .lit (.string b) => [Value.string ⟨b.toArray⟩]
        | .agg l' => l'.map fun
            | .lit (.int k n) => Value.int k n
            | _ => .bool false
        | _ => []).toArray
    | _ => #[]
  let h1 := put w0.heap 4 (ofData Rows.laid_commissary_lex_keys)
  let h2 := put h1 3 (ofData Rows.laid_commissary_lex_signs)
  let h3 := put h2 2 (ofData Rows.laid_commissary_value_ands)
  let h4 := put h3 1 (ofData Rows.laid_commissary_value_ors)
  let h5 := put h4 0 (ofData Rows.laid_commissary_value_nots)
  { w0 with heap := h5 }

set_option maxRecDepth 100000 in
theorem laid_met (os : Os) (args : Array Value) : laidMet Tryz.prog listed ((laidWorld os).forCall (fun _ _ => 0) ⟨#[], args, []⟩).memory :=
  laidMet_of_run' 8 (by kernel_rfl) (by kernel_rfl)
end
end Go.Proofs.YtpokpiphnggfpaaGreatDoor
end
section
namespace Go.Proofs.YtpokpiphnggfpaaGreatDoor.calcAnds
open Go.ChangeShapes Go.WideShapes Go.ChangeAt Go.RowKit Go.Joins
open Go.ChangeMaps (open_string shut_string)

set_option maxRecDepth 100000 in
theorem contract (H : Type) (enc : TypeId × Value → H) (W : World) (base : Nat) (args : Array Value) (ds gs : List (DataW H)) (before : List MemPlace)
    (hval : ∀ (j : Nat) t v, Tryz.f3.params[j]? = some t → args[j]? = some v → Value.okWide Tryz.prog W .any base t v)
    (hW : DataW.Whole enc Tryz.prog Tryz.f3.params.toList Rows.calcAndsSpec.vars false W args.toList ds gs before) (hL : laidMetH Tryz.prog listed W) :
    Calls Tryz.prog 3 args W fun e W' => ∃ v, e = .returned v ∧ Rows.calcAndsSpec.post enc Tryz.prog Tryz.f3 false true false false W args v W' := by
  have hW' := hW
  obtain ⟨p, q, hA0, hV, rfl, hfz, hnd⟩ := hW
  have hA : DataW.TrodAll enc Tryz.prog W 0 (fun _ => true) true Tryz.f3.params.toList args.toList ds p := hA0
  rw [Tryz.params3] at hA hval
  obtain ⟨v0, vs0, d0, ds0, p0, q0, hargs, rfl, rfl, h0, r0⟩ := trodAll_cons hA
  obtain ⟨v1, vs1, d1, ds1, p1, q1, rfl, rfl, rfl, h1, r1⟩ := trodAll_cons r0
  obtain ⟨rfl, rfl, rfl⟩ := trodAll_nil r1
  obtain rfl : args = #[v0, v1] := by cases args; simp_all
  obtain ⟨rfl, rfl⟩ := trodVars_none hV
  obtain ⟨l, A, cap, rfl, _, _, hx⟩ := open_exs (hval 0 22 _ rfl rfl) h0
  obtain ⟨Ar, rc, r, rfl, hR, hfine, _, hrl, hrm⟩ := open_row (hval 1 23 _ rfl rfl) h1
  clear hA0
  obtain ⟨hT, hV2⟩ := tabs_of hL
  refine (calcAnds_walk l A cap r Ar rc W hx hR hfine (by simp only [maxLen] at hrm; omega) hV2 hT (fun w1 hb => lives16_yes w1 (hV2.kept hb) (hT.kept hb))).mono fun e W' ⟨he, hb⟩ => ?_
  subst he
  exact ⟨_, rfl, law_post laidOut (by kernel_rfl) (tb := 4) (by kernel_rfl) Tryz.underlying4 rfl rfl hW' hb⟩

theorem reads (os : Os) {H : Type} (enc : TypeId × Value → H) : ∃ places, DataW.whole enc Tryz.prog ((laidWorld os).forCall (fun _ _ => 0) ⟨#[], #[.slice none 0 0, .slice none 0 0], []⟩).memory Tryz.f3.params.toList Rows.calcAndsSpec.vars false (#[.slice none 0 0, .slice none 0 0] : Array Value).toList 8 = some ([.nil, .nil], [], places) :=
  ⟨[], by kernel_rfl⟩

set_option maxRecDepth 100000 in
theorem lifted (os : Os) (started : os.Started) (H : Type) (enc : TypeId × Value → H) (F : Stop.Interp) :
    ReturnsInHanded {} Tryz.checked os 3 .any ((OpenSpec.ofChange Rows.calcAndsSpec).preRow enc Tryz.prog Tryz.f3 Rows.calcAndsRow.domain false Rows.calcAndsRow.laid) (((OpenSpec.ofChange Rows.calcAndsSpec).at F).post enc Tryz.prog Tryz.f3 false true false false) := by
  obtain ⟨places, hx⟩ := reads os enc
  refine returnsInHanded_of_row (C := Tryz.checked) (s := OpenSpec.ofChange Rows.calcAndsSpec) own started (by kernel_rfl) Tryz.func3
    (witness_row_at (enc := enc) (C := Tryz.checked) false (laidWorld os) #[.slice none 0 0, .slice none 0 0] rfl (by kernel_rfl) (by kernel_rfl) (by kernel_rfl)
      (OpenSpec.preRow_of_cond 8 hx (by kernel_rfl) (fun k hk => by cases hk) (by kernel_rfl) (laid_met os _))) ?_
  intro W base args ds gs before hval hW _ _ _ hL _ _
  exact contract H enc W base args ds gs before hval hW hL

theorem said : Rows.CalcAndsSaid :=
  OpenClaim.holds_of_cond 3 Tryz.f3 rfl rfl rfl rfl rfl rfl rfl ⟨rfl, rfl, rfl, rfl, rfl⟩ rfl rfl rfl rfl rfl (by kernel_rfl) Tryz.func3 (by kernel_rfl)
    (of_decide_eq_true (by kernel_rfl)) (by unfold Func.isWrapper; first | (rw [if_pos (by decide +kernel)]; kernel_rfl) | (rw [if_neg (by decide +kernel)]; exact ⟨rfl, rfl⟩))
    (fun os started H enc _ F => by rw [OpenClaim.pre_eq_preRow]; exact lifted os started H enc F)

theorem plain (f : FuncId) (fn : Func) (hf : Tryz.pinned.checked.prog.funcNamed "commissary/commissarylaw16.CalcAnds" = some f) (hfn : Tryz.pinned.checked.prog.funcs[f]? = some fn) :
    false = Tryz.pinned.checked.prog.looks [] ∧ ∀ (j : Nat) t, fn.params[j]? = some t → Tryz.pinned.checked.prog.wantsStandIn t = false := by
  obtain rfl : f = 3 := Option.some.inj ((show Tryz.prog.funcNamed "commissary/commissarylaw16.CalcAnds" = some 3 by kernel_rfl).symm.trans hf) |>.symm
  obtain rfl : fn = Tryz.f3 := (Option.some.inj (Tryz.func3.symm.trans hfn)).symm
  refine ⟨by kernel_rfl, fun j t ht => ?_⟩
  rw [Tryz.params3] at ht
  have hm : t ∈ [22, 23] := by simpa using Array.mem_of_getElem? ht
  have hall : ([22, 23].all fun u => !Tryz.prog.wantsStandIn u) = true := by kernel_rfl
  exact (show Tryz.prog.wantsStandIn t = false by simpa using List.all_eq_true.1 hall t hm)

theorem card : Rows.CalcAndsCardSaid :=
  Claim7.holds_tied_plain_at .later [] _ _ _ _ said (fun _ h => by cases h) (by kernel_rfl) (fun _ h => by cases h) calcAnds_row_tie rfl ⟨rfl, rfl⟩ (by kernel_rfl) rfl plain (by kernel_rfl)
#print axioms card
end Go.Proofs.YtpokpiphnggfpaaGreatDoor.calcAnds
end
