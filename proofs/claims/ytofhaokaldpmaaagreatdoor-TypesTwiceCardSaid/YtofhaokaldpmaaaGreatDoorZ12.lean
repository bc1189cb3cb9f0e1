/-
  The document's kind and Type.
The document's Uses; Same of two lists of ints that are the same.
What the law itself has: large, Two; the contracts in the form in which a walk uses them.
The law's own example.
Plain: what is bound or moved may be, is as large, and has the same type; bound twice it is the same.
The walk of TypesBinds.
The walk of TypesTwice.
-/
import Derived.Test.YtofhaokaldpmaaaGreatDoorZ11
section
namespace Go.Proofs.YtofhaokaldpmaaaGreatDoor
open Go.RowKit Go.Shelf
attribute [local go_sem] Oper.semAt_some

theorem onlyT_err {k : Int} {ts : List Int} {c : Int} (h : onlyT k ts = .error c) : c = 141 := by
  unfold onlyT at h
  split at h
  · exact (Except.error.inj h).symm
  · cases h
theorem compT_err {a b c : Int} (h : compT a b = .error c) : c = 141 := by
  unfold compT at h
  split at h
  · cases h
  · exact (Except.error.inj h).symm
mutual
theorem tyX_err {cols : List Co} : ∀ (x : Ex) (c : Int), tyX cols x = .error c → c = 140 ∨ c = 141
  | .mk h l, c, he => by
    rw [tyX] at he
    cases hl : tysX cols l with
    | error c' =>
      rw [hl] at he
      obtain rfl := Except.error.inj he
      exact tysX_errs l _ hl
    | ok ts =>
      rw [hl] at he
      simp only at he
      split at he
      · cases he
      · split at he
        · unfold colT at he
          split at he
          · cases he
          · exact .inl (Except.error.inj he).symm
        · split at he
          · unfold aggT at he
            split at he
            · exact .inr (onlyT_err he)
            · split at he <;> cases he
          · unfold opT at he
            split at he
            · exact .inr (onlyT_err he)
            · split at he
              · exact .inr (onlyT_err he)
              · split at he
                · cases he
                · exact .inr (compT_err he)
theorem tysX_errs {cols : List Co} : ∀ (l : List Ex) (c : Int), tysX cols l = .error c → c = 140 ∨ c = 141
  | [], c, he => by rw [tysX] at he; cases he
  | x :: r, c, he => by
    rw [tysX] at he
    cases hx : tyX cols x with
    | error c' =>
      rw [hx] at he
      obtain rfl := Except.error.inj he
      exact tyX_err x _ hx
    | ok t =>
      cases hr : tysX cols r with
      | error c' =>
        rw [hx, hr] at he
        obtain rfl := Except.error.inj he
        exact tysX_errs r _ hr
      | ok ts => rw [hx, hr] at he; cases he
end
def tkV (q : Except Int Int) : Value := match q with
  | .ok t => .tuple #[.int .i64 t, .int .i64 0]
  | .error c => .tuple #[.int .i64 0, .int .i64 c]
set_option maxRecDepth 100000 in
set_option maxHeartbeats 16000000 in
theorem rkind_of (cols : List Co) (Ac : Option Addr) (c : Nat) (h : Hd) (l : List Ex) (hF : fitsB h l.length = true) (hll : l.length ≤ 1000000) (A : Option Addr) (cap : Nat) (w : World) (hCo : CoAt w Ac cols) (hX : XsAt w.heap.size w l A)
    (hC : ∀ (i : Nat) (h' : Hd) (l' : List Ex), l[i]? = some (.mk h' l') → ∀ W1, Below w.heap.size w W1 → ∀ A' cap', XsAt W1.heap.size W1 l' A' → l'.length ≤ cap' →
      Calls Tryz.prog 35 #[XV h' A' l'.length cap', .slice Ac cols.length c] W1 fun e W2 => e = .returned (tkV (tyX cols (.mk h' l'))) ∧ Below W1.heap.size W1 W2) :
    Calls Tryz.prog 35 #[XV h A l.length cap, .slice Ac cols.length c] w fun e w' => e = .returned (tkV (tyX cols (.mk h l))) ∧ Below w.heap.size w w' := by
  obtain ⟨i0, hi, hz0, hz1, hz2⟩ := info_parts info_intT
  have h1 := ba w (xbox h A l.length cap)
  have HX0 := Lib.hid (MapKept.heap_alloc w (xbox h A l.length cap)).1
  have HXs := Lib.hid (XsAt.next hX h1)
  have HCo := Lib.hid (hCo.kept h1)
  have HS0 := Lib.hid (show w.heap.size < (w.alloc (xbox h A l.length cap)).heap.size by simp)
  have HB0 := Lib.hid h1
  have HI := Lib.hid hC
  obtain ⟨O, hO⟩ : ∃ O, tyX cols (.mk h l) = O := ⟨_, rfl⟩
  have HO := Lib.hid hO
  rw [hO]
  have hkk := fit_of2 hF
  clear h1 hX hCo hC hO hF
  obtain ⟨k, n, vk, vn, vs, tb, cl⟩ := h
  simp only at hkk
  rcases hkk with ⟨rfl, hl0⟩ | ⟨rfl, hl0, hn0⟩ | hok
  · obtain rfl : l = [] := List.eq_nil_of_length_eq_zero hl0
    obtain rfl : O = .ok vk := by rw [← HO.out, tyX, tysX]; rfl
    rw [show tkV (.ok vk) = .tuple #[.int .i64 vk, .int .i64 0] from rfl]
    clear hl0
    go_enter Tryz.func35, Tryz.ntmps35
    go_upto_region 1 with fail
    generalize w.alloc (.cells #[.int .i64 1, .int .i64 n, .int .i64 vk, .int .i64 vn, .string vs, .string tb, .string cl, .slice A 0 cap] 35) = W0 at HX0 HXs HCo HS0 HB0 ⊢
    obtain ⟨⟨x0, x1, x2, x3, x4, x5, x6, x7⟩, _⟩ := cell8 HX0.out
    go_wp2_with fail
    exact bodyPost_ret (v := .tuple #[.int .i64 vk, .int .i64 0]) (by simp [results, Tryz.results35, go_sem]) rfl ⟨rfl, HB0.out⟩
  · obtain rfl : l = [] := List.eq_nil_of_length_eq_zero hl0
    obtain rfl : O = colT cols n := by rw [← HO.out, tyX, tysX]; rfl
    obtain ⟨i, rfl⟩ := Int.eq_ofNat_of_zero_le hn0
    obtain ⟨o, ho⟩ : ∃ o, colT cols (i : Nat) = o := ⟨_, rfl⟩
    rw [ho]
    unfold colT at ho
    clear hl0 hn0
    by_cases hi : i < cols.length
    · obtain ⟨b, off, rfl, hb, c0, c1, c2⟩ := HCo.out.at hi
      rw [if_pos (by omega), Int.toNat_natCast, List.getElem?_eq_getElem hi] at ho
      obtain rfl : Except.ok cols[i].ty = o := ho
      obtain ⟨v, hv⟩ : ∃ v, cols[i] = v := ⟨_, rfl⟩
      rw [hv] at c0 c1 c2 ⊢
      obtain ⟨vt, vn', vy⟩ := v
      simp only at c2 ⊢
      rw [show tkV (.ok vy) = .tuple #[.int .i64 vy, .int .i64 0] from rfl]
      have HC2 := Lib.hid c2
      clear hv c0 c1 c2 hb
      have hgo : ¬ (cols.length : Int) ≤ (i : Int) := by omega
      go_enter Tryz.func35, Tryz.ntmps35
      go_upto_region 1 with fail
      generalize w.alloc (.cells #[.int .i64 2, .int .i64 (i : Nat), .int .i64 vk, .int .i64 vn, .string vs, .string tb, .string cl, .slice A 0 cap] 35) = W0 at HX0 HXs HCo HS0 HB0 HC2 ⊢
      obtain ⟨⟨x0, x1, x2, x3, x4, x5, x6, x7⟩, _⟩ := cell8 HX0.out
      have c2 := HC2.out
      go_wp2_with fail
      exact bodyPost_ret (v := .tuple #[.int .i64 vy, .int .i64 0]) (by simp [results, Tryz.results35, go_sem]) rfl ⟨rfl, HB0.out⟩
    · rw [if_neg (by omega)] at ho
      subst ho
      rw [show tkV (.error 140) = .tuple #[.int .i64 0, .int .i64 140] from rfl]
      have hgo : (cols.length : Int) ≤ (i : Int) := by omega
      go_enter Tryz.func35, Tryz.ntmps35
      go_upto_region 1 with fail
      generalize w.alloc (.cells #[.int .i64 2, .int .i64 (i : Nat), .int .i64 vk, .int .i64 vn, .string vs, .string tb, .string cl, .slice A 0 cap] 35) = W0 at HX0 HXs HCo HS0 HB0 ⊢
      obtain ⟨⟨x0, x1, x2, x3, x4, x5, x6, x7⟩, _⟩ := cell8 HX0.out
      go_wp2_with fail
      exact bodyPost_ret (v := .tuple #[.int .i64 0, .int .i64 140]) (by simp [results, Tryz.results35, go_sem]) rfl ⟨rfl, HB0.out⟩
  · have HOk := Lib.hid hok
    have hk1 : ¬ k = 1 := by unfold OfOk at hok; simp only at hok; omega
    have hk2 : ¬ k = 2 := by unfold OfOk at hok; simp only at hok; omega
    have HE1 := Lib.hid (fun ts (e : tysX cols l = .ok ts) => show O = (if k = 4 then aggT n ts else opT n ts) by
      rw [← HO.out, tyX, e]; simp only; rw [if_neg hk1, if_neg hk2])
    have HE2 := Lib.hid (fun cc (e : tysX cols l = .error cc) => show O = .error cc by rw [← HO.out, tyX, e])
    have hkb1 : (k == 1) = false := by simpa using hk1
    have hkb2 : (k == 2) = false := by simpa using hk2
    clear hok hk1 hk2 HO
    go_enter Tryz.func35, Tryz.ntmps35
    go_upto_region 1 with fail
    generalize w.alloc (.cells #[.int .i64 k, .int .i64 n, .int .i64 vk, .int .i64 vn, .string vs, .string tb, .string cl, .slice A l.length cap] 35) = W0 at HX0 HXs HCo HS0 HB0 ⊢
    obtain ⟨⟨x0, x1, x2, x3, x4, x5, x6, x7⟩, _⟩ := cell8 HX0.out
    go_wp2_with fail
    clear x0 x1 x2 x3 x4 x5 x6 x7
    go_loopw [7, 6] (fun i v W => ∃ (j : Nat) (ts : List Int), j ≤ l.length ∧ i = .int .i64 j ∧ Hid (tysX cols (l.take j) = .ok ts) ∧ Hid (Iown W0 W v ts)) (fun i _ _ => l.length - (intOf i).toNat)
    case atStart => exact ⟨0, [], Nat.zero_le _, rfl, Lib.hid (by rw [List.take_zero, tysX]), Lib.hid ⟨World.ownsRow_nil _ _ _ _, Below.refl _ _⟩⟩
    case round =>
      obtain ⟨j, ts, hj, rfl, HP, HW⟩ := hrel
      have hkl : ts.length = j := by rw [tysX_len HP.out, List.length_take]; omega
      have HX1 := Lib.hid ((HW.out.bel.block _ HS0.out).trans HX0.out)
      obtain ⟨⟨x0, x1, x2, x3, x4, x5, x6, x7⟩, _⟩ := cell8 HX1.out
      by_cases hjn : j < l.length
      · obtain ⟨x, hx⟩ : ∃ x, l[j]? = some x := ⟨_, List.getElem?_eq_getElem hjn⟩
        obtain ⟨h2, l2⟩ := x
        have hT : l.take (j + 1) = l.take j ++ [.mk h2 l2] := by rw [List.take_add_one, hx]; rfl
        have HT := Lib.hid (fun t (ht : tyX cols (.mk h2 l2) = .ok t) => show tysX cols (l.take (j + 1)) = .ok (ts ++ [t]) by rw [hT, tysX_app, HP.out]; simp only [ht])
        have HNo := Lib.hid (fun cc (e : tyX cols (.mk h2 l2) = .error cc) => tysX_err hx HP.out e)
        obtain ⟨g, off, A', cap', rfl, hg, hX, hle', hl'⟩ := HXs.out.at hx
        have hXr := hX.of (HW.out.bel.block g hg)
        obtain ⟨c0, c1, c2, c3, c4, c5, c6, c7⟩ := hXr
        have hb1 := HW.out.bel
        have hC1 := HI.out j h2 l2 hx wr (bt HB0.out hb1) A' cap' (XsAt.next hl' hb1) hle'
        clear hX hl' hx hg hT hb1 hle'
        cases hpx : tyX cols (.mk h2 l2) with
        | error cc =>
          rw [hpx, show tkV (.error cc) = .tuple #[.int .i64 0, .int .i64 cc] from rfl] at hC1
          have HC := Lib.hid hC1
          have hcc := tyX_err _ _ hpx
          obtain rfl : O = .error cc := HE2.out cc (HNo.out cc hpx)
          clear hC1 hpx HNo HT
          rcases hcc with rfl | rfl
          all_goals
            go_wp2_with fail
            refine HC.out.mono ?_
            rintro e w3 ⟨rfl, hb3⟩
            have HB3 := Lib.hid (bt HB0.out (HW.out.below hb3).bel)
            clear hb3 c0 c1 c2 c3 c4 c5 c6 c7 x0 x1 x2 x3 x4 x5 x6 x7
            go_wp2_with fail
          · exact bodyPost_ret (v := .tuple #[.int .i64 0, .int .i64 140]) (by simp [results, Tryz.results35, go_sem]) rfl ⟨rfl, HB3.out⟩
          · exact bodyPost_ret (v := .tuple #[.int .i64 0, .int .i64 141]) (by simp [results, Tryz.results35, go_sem]) rfl ⟨rfl, HB3.out⟩
        | ok t =>
          rw [hpx, show tkV (.ok t) = .tuple #[.int .i64 t, .int .i64 0] from rfl] at hC1
          have HC := Lib.hid hC1
          have HT2 := Lib.hid (HT.out t hpx)
          clear hC1 hpx HT HNo
          go_wp2_with fail
          refine HC.out.mono ?_
          rintro e w3 ⟨rfl, hb3⟩
          have H3 := Lib.hid (HW.out.below hb3)
          have hle3 := H3.out.bel.size
          clear hb3 c0 c1 c2 c3 c4 c5 c6 c7 x0 x1 x2 x3 x4 x5 x6 x7 HC HW HX1
          go_wp2_with (at_builtin; refine wpList_append_own _ rfl _ _ 42 rfl W0.heap.size 3 i0 (.int .i64 0) 1 8 Tryz.underlying42 hi hz0 hz1 hz2 rfl (by decide) _ _ _ rfl (H3.out.own.alloc _) ⟨w3.heap.size, 0, none⟩ 1 1 [.int .i64 t] rfl rfl ?c1 ?c2 ?c3 ?c4 ?c5 ?_)
          case c1 =>
            intro j u hj
            match j, hj with
            | 0, hj => simp at hj; subst hj; simp [Addr.add]
          case c2 => intro u hu; simp at hu; subst hu; rfl
          case c3 => unfold maxLen; omega
          case c4 => omega
          case c5 => simp; omega
          intro v' w5 hown' hg5 _
          have H5 := Lib.hid (show Iown W0 w5 v' (ts ++ [t]) from ⟨by rw [List.length_append, List.map_append, hkl]; exact hown', (bt H3.out.bel (ba w3 _)).grown hg5 (by have := H3.out.bel.size; simp; omega) (fun k hk => (H3.out.own.lt k hk).1)⟩)
          clear hown' hg5 hle3
          go_wp2_with fail
          go_roundw
          case rel => exact ⟨j + 1, ts ++ [t], by omega, by go_num, HT2, H5⟩
          case measure => simp [intOf]; omega
      · obtain rfl : j = l.length := by omega
        have hP := HP.out
        rw [List.take_length] at hP
        have ho := HE1.out ts hP
        obtain ⟨A2, cap2, hv2, hle2, hx2⟩ := inAt_own HW.out.own
        rw [hkl] at hv2
        subst hv2
        have hof := rof_any ⟨k, n, vk, vn, vs, tb, cl⟩ A l.length cap ts A2 cap2 wr hx2 (by omega) (by rw [hkl]; exact HOk.out)
        have HB := Lib.hid (bt HB0.out HW.out.bel)
        rw [hkl] at hof
        simp only at hof
        generalize (if k = 4 then aggT n ts else opT n ts) = q at hof ho
        subst ho
        have HOf := Lib.hid hof
        clear hx2 hP HE1 HE2 hof
        go_wp2_with fail
        refine HOf.out.mono ?_
        rintro e W5 ⟨⟨m, b, rfl, hq⟩, hb5⟩
        have HB5 := Lib.hid (bt HB.out hb5)
        clear hb5
        cases O with
        | ok t =>
          obtain ⟨rfl, rfl⟩ := hq
          go_wp2_with fail
          exact bodyPost_ret (v := .tuple #[.int .i64 m, .int .i64 0]) (by simp [results, Tryz.results35, go_sem]) rfl ⟨rfl, HB5.out⟩
        | error c' =>
          obtain ⟨rfl, rfl⟩ := hq
          go_wp2_with fail
          exact bodyPost_ret (v := .tuple #[.int .i64 0, .int .i64 141]) (by simp [results, Tryz.results35, go_sem]) rfl ⟨rfl, HB5.out⟩
theorem rkind_n (cols : List Co) (Ac : Option Addr) (c : Nat) : ∀ (N : Nat) (h : Hd) (l : List Ex), cnt (.mk h l) ≤ N → N ≤ 1000000 → FitX (.mk h l) → ∀ (w : World) (A : Option Addr) (cap : Nat), CoAt w Ac cols → XsAt w.heap.size w l A →
    Calls Tryz.prog 35 #[XV h A l.length cap, .slice Ac cols.length c] w fun e w' => e = .returned (tkV (tyX cols (.mk h l))) ∧ Below w.heap.size w w' := by
  intro N
  induction N with
  | zero => intro h l hc; have := cnt_pos (.mk h l); omega
  | succ N ih =>
    intro h l hc hN hF w A cap hCo hX
    rw [FitX] at hF
    rw [cnt_mk] at hc
    have hlen := cntL_len l
    refine rkind_of cols Ac c h l hF.1 (by omega) A cap w hCo hX fun i h2 l2 hi W1 hb1 A2 cap2 hx2 _ => ?_
    have hc2 := cntL_mem hi
    exact ih h2 l2 (by omega) (by omega) (FitXs_at hF.2 hi) W1 A2 cap2 (hCo.kept hb1) hx2
set_option maxRecDepth 100000 in
set_option maxHeartbeats 8000000 in
theorem rtype_any (cols : List Co) (Ac : Option Addr) (c : Nat) (h : Hd) (l : List Ex) (A : Option Addr) (cap : Nat) (w : World) (hX : XsAt w.heap.size w l A) (hcap : l.length ≤ cap) (hsm : AllSm (.mk h l)) (hc : cnt (.mk h l) ≤ 999999) (hCo : CoAt w Ac cols) :
    Calls Tryz.prog 16 #[XV h A l.length cap, .slice Ac cols.length c] w fun e w' => e = .returned (.tuple #[.int .i64 (typA cols (.mk h l)).1, .int .i64 (typA cols (.mk h l)).2]) ∧ Below w.heap.size w w' := by
  have h1 := ba w (xbox h A l.length cap)
  have HX := Lib.hid (MapKept.heap_alloc w (xbox h A l.length cap)).1
  have HEV := Lib.hid (show EV (.mk h l) (XV h A l.length cap) (w.alloc (xbox h A l.length cap)) from ⟨A, cap, rfl, hcap, XsAt.next hX h1⟩)
  have HB := Lib.hid h1
  have HTy := Lib.hid (fun (ho : okX (.mk h l) = true) W (hb : Below w.heap.size w W) => rkind_n cols Ac c 999999 h l hc (by omega) (okX_fit ho) W A cap (hCo.kept hb) (XsAt.next hX hb))
  have HCk0 := Lib.hid (fun cc (e : okX (.mk h l) = cc) => rv_check HEV.out hsm (by omega) e)
  obtain ⟨q, hq⟩ : ∃ q, typA cols (.mk h l) = q := ⟨_, rfl⟩
  have HQ := Lib.hid hq
  rw [hq]
  clear h1 hX hsm hc hCo hq HEV
  cases hok : okX (.mk h l)
  · have HCk := Lib.hid (HCk0.out false hok)
    obtain rfl : q = (0, 100) := by rw [← HQ.out, typA, hok]; rfl
    clear hok HTy HCk0
    go_enter Tryz.func16, Tryz.ntmps16
    go_upto_region 1 with fail
    generalize w.alloc (.cells #[.int .i64 h.k, .int .i64 h.n, .int .i64 h.vk, .int .i64 h.vn, .string h.vs, .string h.tab, .string h.col, .slice A l.length cap] 35) = W at HX HB HCk ⊢
    obtain ⟨⟨x0, x1, x2, x3, x4, x5, x6, x7⟩, _⟩ := cell8 HX.out
    go_wp2_with fail
    refine HCk.out.mono ?_
    rintro e W1 ⟨u, rfl, hb, rfl⟩
    have HB1 := Lib.hid (bt HB.out hb)
    clear hb
    go_wp2_with fail
    exact bodyPost_ret (v := .tuple #[.int .i64 0, .int .i64 100]) (by simp [results, Tryz.results16, go_sem]) rfl ⟨rfl, HB1.out⟩
  · have HCk := Lib.hid (HCk0.out true hok)
    have HTy2 := Lib.hid (HTy.out hok)
    have HQ2 := Lib.hid (show (match tyX cols (.mk h l) with | .ok t => (t, 0) | .error c => (0, c)) = q by rw [← HQ.out, typA, if_pos hok]; rfl)
    clear hok HTy HQ HCk0
    obtain ⟨a1, a2, hq1, hq2⟩ : ∃ a1 a2, tkV (tyX cols (.mk h l)) = .tuple #[.int .i64 a1, .int .i64 a2] ∧ q = (a1, a2) := by
      rw [← HQ2.out]
      cases tyX cols (.mk h l) with
      | ok t => exact ⟨t, 0, rfl, rfl⟩
      | error c' => exact ⟨0, c', rfl, rfl⟩
    subst hq2
    rw [hq1] at HTy2
    clear hq1 HQ2
    go_enter Tryz.func16, Tryz.ntmps16
    go_upto_region 1 with fail
    generalize w.alloc (.cells #[.int .i64 h.k, .int .i64 h.n, .int .i64 h.vk, .int .i64 h.vn, .string h.vs, .string h.tab, .string h.col, .slice A l.length cap] 35) = W at HX HB HCk ⊢
    obtain ⟨⟨x0, x1, x2, x3, x4, x5, x6, x7⟩, _⟩ := cell8 HX.out
    go_wp2_with fail
    refine HCk.out.mono ?_
    rintro e W1 ⟨u, rfl, hb, rfl⟩
    have HB1 := Lib.hid (bt HB.out hb)
    have HX1 := Lib.hid ((hb.block _ (Array.getElem?_eq_some_iff.1 HX.out).1).trans HX.out)
    clear hb x0 x1 x2 x3 x4 x5 x6 x7
    obtain ⟨⟨x0, x1, x2, x3, x4, x5, x6, x7⟩, _⟩ := cell8 HX1.out
    go_wp2_with fail
    refine (HTy2.out _ HB1.out).mono ?_
    rintro e W2 ⟨rfl, hb⟩
    have HB2 := Lib.hid (bt HB1.out hb)
    clear hb
    go_wp2_with fail
    exact bodyPost_ret (v := .tuple #[.int .i64 a1, .int .i64 a2]) (by simp [results, Tryz.results16, go_sem]) rfl ⟨rfl, HB2.out⟩
end Go.Proofs.YtofhaokaldpmaaaGreatDoor
end
section
namespace Go.Proofs.YtofhaokaldpmaaaGreatDoor
open Go.RowKit Go.Shelf
attribute [local go_sem] Oper.semAt_some

theorem rsame_any (A A' : Option Addr) (L c c' : Nat) (rs : List Int) (w : World) (hL : rs.length = L) (h : InAt w A rs) (h' : InAt w A' rs) (hn : L ≤ 9223372036854775807) :
    Calls Tryz.prog 20 #[.slice A L c, .slice A' L c'] w fun e w' => e = .returned (.bool true) ∧ Below w.heap.size w w' := by
  subst hL
  have HR := Lib.hid h
  have HR' := Lib.hid h'
  clear h h'
  go_enter Tryz.func20, Tryz.ntmps20
  go_wp2_with fail
  go_loopw [5] (fun i wr => ∃ j : Nat, j ≤ rs.length ∧ i = .int .i64 j ∧ Hid (Below w.heap.size w wr)) (fun i _ => rs.length - (intOf i).toNat)
  case atStart => exact ⟨0, Nat.zero_le _, rfl, Lib.hid (Below.refl _ _)⟩
  case round =>
    obtain ⟨j, hj, rfl, HB⟩ := hrel
    by_cases hlt : j < rs.length
    · obtain ⟨b, off, rfl, _, c0⟩ := (HR.out.kept HB.out).at hlt
      obtain ⟨b', off', rfl, _, d0⟩ := (HR'.out.kept HB.out).at hlt
      generalize rs[j] = r at c0 d0
      have hi0 : (0 : Int) ≤ (j : Int) := Int.natCast_nonneg _
      have hi1 : (j : Int) < (rs.length : Int) := by omega
      go_wp2_with fail
      go_region
      all_goals
        have HB2 := Lib.hid (bt HB.out (Below.drew (Below.refl _ _)))
        go_wp2_with fail
        go_roundw
        case rel => exact ⟨j + 1, by omega, by go_num, HB2⟩
        case measure => simp [intOf]; omega
    · go_wp2_with fail
      go_ret
      exact ⟨rfl, HB.out⟩
/-- The places found up to one. -/
structure Upto (ns ys : List Int) (j : Nat) : Prop where
  up : ys.Pairwise fun a b => a < b
  mem : ∀ m, m ∈ ys ↔ (m ∈ ns ∧ m < (j : Int))
theorem Upto.zero {ns : List Int} (h : ∀ m ∈ ns, 0 ≤ m) : Upto ns [] 0 := ⟨List.Pairwise.nil, fun m => ⟨fun h => absurd h (by simp), fun ⟨h1, h2⟩ => by have := h m h1; omega⟩⟩
theorem Upto.yes {ns ys : List Int} {j : Nat} (h : Upto ns ys j) (hm : (j : Int) ∈ ns) : Upto ns (ys ++ [(j : Int)]) (j + 1) := by
  refine ⟨List.pairwise_append.2 ⟨h.up, by simp, fun a ha b hb => ?_⟩, fun m => ?_⟩
  · obtain rfl : b = j := by simpa using hb
    exact ((h.mem a).1 ha).2
  · rw [List.mem_append, h.mem, List.mem_singleton]
    constructor
    · rintro (⟨h1, h2⟩ | rfl)
      · exact ⟨h1, by omega⟩
      · exact ⟨hm, by omega⟩
    · rintro ⟨h1, h2⟩
      by_cases e : m = j
      · exact .inr e
      · exact .inl ⟨h1, by omega⟩
theorem Upto.no {ns ys : List Int} {j : Nat} (h : Upto ns ys j) (hm : (j : Int) ∉ ns) : Upto ns ys (j + 1) := by
  refine ⟨h.up, fun m => ?_⟩
  rw [h.mem]
  constructor
  · rintro ⟨h1, h2⟩
    exact ⟨h1, by omega⟩
  · rintro ⟨h1, h2⟩
    have : m ≠ j := fun e => hm (e ▸ h1)
    exact ⟨h1, by omega⟩
theorem up_len : ∀ (ys : List Int) (a b : Int), a ≤ b → ys.Pairwise (fun x y => x < y) → (∀ m ∈ ys, a ≤ m ∧ m < b) → (ys.length : Int) ≤ b - a
  | [], a, b, hab, _, _ => by simp; omega
  | y :: r, a, b, hab, hp, hm => by
    rw [List.pairwise_cons] at hp
    have hy := hm y (List.mem_cons_self ..)
    have := up_len r (y + 1) b (by omega) hp.2 fun m h => ⟨by have := hp.1 m h; omega, (hm m (List.mem_cons_of_mem _ h)).2⟩
    rw [List.length_cons]
    omega
theorem Upto.len {ns ys : List Int} {j : Nat} (h : Upto ns ys j) (h0 : ∀ m ∈ ns, 0 ≤ m) : ys.length ≤ j := by
  have := up_len ys 0 j (by omega) h.up fun m hm => ⟨h0 m ((h.mem m).1 hm).1, ((h.mem m).1 hm).2⟩
  omega
set_option maxRecDepth 100000 in
set_option maxHeartbeats 8000000 in
theorem ruses_any (h : Hd) (l : List Ex) (A : Option Addr) (cap : Nat) (w : World) (hX : XsAt w.heap.size w l A) (hcap : l.length ≤ cap) (hsm : AllSm (.mk h l)) (hc : cnt (.mk h l) ≤ 999999) :
    Calls Tryz.prog 22 #[XV h A l.length cap] w (UsesE w (.mk h l)) := by
  obtain ⟨i0, hi, hz0, hz1, hz2⟩ := info_parts info_intT
  have h1 := ba w (xbox h A l.length cap)
  have HX0 := Lib.hid (MapKept.heap_alloc w (xbox h A l.length cap)).1
  have HEV := Lib.hid (show EV (.mk h l) (XV h A l.length cap) (w.alloc (xbox h A l.length cap)) from ⟨A, cap, rfl, hcap, XsAt.next hX h1⟩)
  have HB0 := Lib.hid h1
  have HCk0 := Lib.hid (fun cc (e : okX (.mk h l) = cc) => rv_check HEV.out hsm (by omega) e)
  have HKi := Lib.hid (fun W (hb : Below w.heap.size w W) => rv_kindsT (c := 2) (show EV (.mk h l) (XV h A l.length cap) W from ⟨A, cap, rfl, hcap, XsAt.next hX hb⟩) (by omega))
  have hkc := knd_cnt 2 (.mk h l)
  clear h1 hX hcap hsm HEV
  cases hok : okX (.mk h l)
  · have HCk := Lib.hid (HCk0.out false hok)
    have HU := Lib.hid (show usesL (.mk h l) = [] by rw [usesL, if_neg (by rw [hok]; decide)]; rfl)
    clear hok HKi HCk0 hkc
    go_enter Tryz.func22, Tryz.ntmps22
    go_upto_region 1 with fail
    generalize w.alloc (.cells #[.int .i64 h.k, .int .i64 h.n, .int .i64 h.vk, .int .i64 h.vn, .string h.vs, .string h.tab, .string h.col, .slice A l.length cap] 35) = W at HX0 HB0 HCk ⊢
    obtain ⟨⟨x0, x1, x2, x3, x4, x5, x6, x7⟩, _⟩ := cell8 HX0.out
    go_wp2_with fail
    refine HCk.out.mono ?_
    rintro e W1 ⟨u, rfl, hb, rfl⟩
    have HB1 := Lib.hid (bt HB0.out hb)
    clear hb
    go_wp2_with fail
    exact bodyPost_ret (v := .slice none 0 0) (by simp [results, Tryz.results22, go_sem]) rfl ⟨none, 0, [], rfl, .inl rfl, List.Pairwise.nil, fun n => by rw [HU.out], HB1.out⟩
  · have HCk := Lib.hid (HCk0.out true hok)
    have HKa := Lib.hid (knd_at (.mk h l) (okX_fit hok))
    obtain ⟨L, hL⟩ : ∃ L, kndX 2 (.mk h l) = L := ⟨_, rfl⟩
    have HU := Lib.hid (show usesL (.mk h l) = L.map fun y => y.hd.n by rw [usesL, if_pos hok, hL])
    rw [hL] at HKi HKa hkc
    have HN0 := Lib.hid (show ∀ m ∈ L.map (fun y => y.hd.n), 0 ≤ m ∧ m < 32 from fun m hm => by
      obtain ⟨y, hy, rfl⟩ := List.mem_map.1 hm
      exact (HKa.out y hy).2)
    clear hok HCk0 hL HKa
    go_enter Tryz.func22, Tryz.ntmps22
    go_upto_region 1 with fail
    generalize w.alloc (.cells #[.int .i64 h.k, .int .i64 h.n, .int .i64 h.vk, .int .i64 h.vn, .string h.vs, .string h.tab, .string h.col, .slice A l.length cap] 35) = W at HX0 HB0 HCk ⊢
    obtain ⟨⟨x0, x1, x2, x3, x4, x5, x6, x7⟩, _⟩ := cell8 HX0.out
    go_wp2_with fail
    refine HCk.out.mono ?_
    rintro e W1 ⟨u, rfl, hb, rfl⟩
    have HB1 := Lib.hid (bt HB0.out hb)
    have HX1 := Lib.hid ((hb.block _ (Array.getElem?_eq_some_iff.1 HX0.out).1).trans HX0.out)
    have HKi1 := Lib.hid (HKi.out W1 HB1.out)
    clear hb x0 x1 x2 x3 x4 x5 x6 x7 HX0 HB0 HCk HKi
    obtain ⟨⟨x0, x1, x2, x3, x4, x5, x6, x7⟩, _⟩ := cell8 HX1.out
    go_wp2_with fail
    refine HKi1.out.mono ?_
    rintro e W2 ⟨u, rfl, hb, A1, cap1, rfl, hle1, hx1⟩
    have HB2 := Lib.hid (bt HB1.out hb)
    have HL1 := Lib.hid hx1
    clear hb hx1 x0 x1 x2 x3 x4 x5 x6 x7 HX1 HKi1 HB1 hle1
    go_wp2_with fail
    go_loopw [5, 3] (fun n v W => ∃ (j : Nat) (ys : List Int), j ≤ 32 ∧ n = .int .i64 j ∧ Hid (Upto (L.map fun y => y.hd.n) ys j) ∧ Hid (Iown W2 W v ys)) (fun n _ _ => 32 - (intOf n).toNat)
    case atStart => exact ⟨0, [], Nat.zero_le _, rfl, Lib.hid (Upto.zero fun m hm => (HN0.out m hm).1), Lib.hid ⟨World.ownsRow_nil _ _ _ _, Below.refl _ _⟩⟩
    case round =>
      obtain ⟨j, ys, hj, rfl, HU1, HW⟩ := hrel
      have hyl := HU1.out.len fun m hm => (HN0.out m hm).1
      by_cases hj32 : j < 32
      · go_wp2_with fail
        go_loopw [6, 3] (fun i v W => ∃ k : Nat, k ≤ L.length ∧ i = .int .i64 k ∧ Hid ((j : Int) ∉ (L.take k).map fun y => y.hd.n) ∧ Hid (Iown W2 W v ys)) (fun i _ _ => L.length - (intOf i).toNat)
        case atStart => exact ⟨0, Nat.zero_le _, rfl, Lib.hid (by simp), HW⟩
        clear HW
        case round =>
          obtain ⟨k, hk, rfl, HN, HW⟩ := hrel
          by_cases hkn : k < L.length
          · obtain ⟨x, hx⟩ : ∃ x, L[k]? = some x := ⟨_, List.getElem?_eq_getElem hkn⟩
            obtain ⟨h2, l2⟩ := x
            have hmem : h2.n ∈ L.map fun y => y.hd.n := List.mem_map.2 ⟨_, List.mem_of_getElem? hx, rfl⟩
            obtain ⟨g, off, A', cap', rfl, hg, hX2, hle', hl'⟩ := HL1.out.at hx
            have hXr := hX2.of (HW.out.bel.block g hg)
            obtain ⟨c0, c1, c2, c3, c4, c5, c6, c7⟩ := hXr
            have HT := Lib.hid (fun (e : h2.n ≠ (j : Int)) => show (j : Int) ∉ (L.take (k + 1)).map fun y => y.hd.n by
              rw [List.take_add_one, hx, List.map_append, List.mem_append]
              rintro (hh | hh)
              · exact HN.out hh
              · simp [Ex.hd] at hh; exact e hh.symm)
            have hsz2 : W2.heap.size ≤ wr.heap.size := HW.out.bel.size
            clear hX2 hl' hx hg hle'
            by_cases he : h2.n = (j : Int)
            · rw [he] at c1 hmem
              have HY := Lib.hid (HU1.out.yes hmem)
              clear HT hmem
              go_wp2_with (at_builtin; refine wpList_append_own _ rfl _ _ 42 rfl W2.heap.size 3 i0 (.int .i64 0) 1 8 Tryz.underlying42 hi hz0 hz1 hz2 rfl (by decide) _ _ _ rfl (HW.out.own.alloc _) ⟨wr.heap.size, 0, none⟩ 1 1 [.int .i64 j] rfl rfl ?c1 ?c2 ?c3 ?c4 ?c5 ?_)
              case c1 =>
                intro j u hj
                match j, hj with
                | 0, hj => simp at hj; subst hj; simp [Addr.add]
              case c2 => intro u hu; simp at hu; subst hu; rfl
              case c3 => unfold maxLen; omega
              case c4 => omega
              case c5 => simp; omega
              intro v' w5 hown' hg5 _
              have H5 := Lib.hid (show Iown W2 w5 v' (ys ++ [(j : Int)]) from ⟨by rw [List.length_append, List.map_append]; exact hown', (bt HW.out.bel (ba wr _)).grown hg5 (by have := HW.out.bel.size; simp; omega) (fun k hk => (HW.out.own.lt k hk).1)⟩)
              clear hown' hg5
              go_wp2_with fail
              go_roundw
              case rel => exact ⟨j + 1, ys ++ [(j : Int)], by omega, by go_num, HY, H5⟩
              case measure => simp [intOf]; omega
            · have hn1 : (h2.n == (j : Int)) = false := by simpa using he
              have HT2 := Lib.hid (HT.out he)
              clear HT hmem
              go_wp2_with fail
              go_roundw
              case rel => exact ⟨k + 1, by omega, by go_num, HT2, HW⟩
              case measure => simp [intOf]; omega
          · obtain rfl : k = L.length := by omega
            have HY := Lib.hid (HU1.out.no (by have := HN.out; rwa [List.take_length] at this))
            go_wp2_with fail
            go_roundw
            case rel => exact ⟨j + 1, ys, by omega, by go_num, HY, HW⟩
            case measure => simp [intOf]; omega
      · obtain rfl : j = 32 := by omega
        obtain ⟨A2, cap2, rfl, hle2, hx2⟩ := inAt_own HW.out.own
        have HE := Lib.hid hx2
        have HB3 := Lib.hid (bt HB2.out HW.out.bel)
        clear hx2
        go_wp2_with fail
        exact bodyPost_ret (v := .slice A2 ys.length cap2) (by simp [results, Tryz.results22, go_sem]) rfl ⟨A2, cap2, ys, rfl, HE.out, HU1.out.up, fun n => by rw [HU1.out.mem, HU.out]; exact ⟨fun h => h.1, fun h => ⟨h, (HN0.out n h).2⟩⟩, HB3.out⟩
end Go.Proofs.YtofhaokaldpmaaaGreatDoor
end
section
namespace Go.Proofs.YtofhaokaldpmaaaGreatDoor
open Go.RowKit Go.Shelf
attribute [local go_sem] Oper.semAt_some

theorem large14_any (A : Option Addr) (n c : Nat) (w : World) {q : Bool} (h : decide (60 < n) = q) : Calls Tryz.prog 8 #[.slice A n c] w fun e w' => e = .returned (.bool q) ∧ w' = w := by
  cases q
  · have hn : ¬ (60 : Int) < (n : Int) := by have := of_decide_eq_false h; omega
    clear h
    go_enter Tryz.func8, Tryz.ntmps8
    go_wp2_with fail
    go_ret
    exact ⟨rfl, rfl⟩
  · have hn : (60 : Int) < (n : Int) := by have := of_decide_eq_true h; omega
    clear h
    go_enter Tryz.func8, Tryz.ntmps8
    go_wp2_with fail
    go_ret
    exact ⟨rfl, rfl⟩
abbrev twoL : List Co := [⟨⟨#[116]⟩, ⟨#[97]⟩, 2⟩, ⟨⟨#[116]⟩, ⟨#[98]⟩, 3⟩, ⟨⟨#[117]⟩, ⟨#[97]⟩, 1⟩]
theorem two_any (w : World) : Calls Tryz.prog 23 #[] w fun e w' => ∃ u, e = .returned u ∧ Bel w w' ∧ ∃ A, u = .slice A 3 3 ∧ CoAt w' A twoL := by
  have hb := ba w (.cells #[.string ⟨#[116]⟩, .string ⟨#[97]⟩, .int .i64 2, .string ⟨#[116]⟩, .string ⟨#[98]⟩, .int .i64 3, .string ⟨#[117]⟩, .string ⟨#[97]⟩, .int .i64 1] 57)
  have hn := (MapKept.heap_alloc w (.cells #[.string ⟨#[116]⟩, .string ⟨#[97]⟩, .int .i64 2, .string ⟨#[116]⟩, .string ⟨#[98]⟩, .int .i64 3, .string ⟨#[117]⟩, .string ⟨#[97]⟩, .int .i64 1] 57)).1
  go_enter Tryz.func23, Tryz.ntmps23
  go_wp2_with fail
  go_ret
  refine ⟨_, rfl, hb, _, rfl, .inr ⟨w.heap.size, 0, rfl, by simp, fun i v hv => ?_⟩⟩
  simp only [World.cell?, hn]
  match i, hv with
  | 0, hv => obtain rfl := Option.some.inj hv; exact ⟨rfl, rfl, rfl⟩
  | 1, hv => obtain rfl := Option.some.inj hv; exact ⟨rfl, rfl, rfl⟩
  | 2, hv => obtain rfl := Option.some.inj hv; exact ⟨rfl, rfl, rfl⟩
/-- What comes of Bind or Move, as an expression. -/
def whR (q : Option Ex × Int) : Ex := q.1.getD (.mk zHd [])
theorem WhE.ev {w w' : World} {q : Option Ex × Int} {e : Ending} (h : WhE w q e w') : ∃ u, e = .returned (.tuple #[u, .int .i64 q.2]) ∧ Bel w w' ∧ EV (whR q) u w' := by
  obtain ⟨o, n⟩ := q
  cases o with
  | none =>
    obtain ⟨rfl, hb⟩ := h
    exact ⟨_, rfl, hb, EV.leaf zHd w'⟩
  | some y =>
    obtain ⟨A, cap, rfl, hle, hx, hb⟩ := h
    obtain ⟨hy, ly⟩ := y
    exact ⟨_, rfl, hb, A, cap, rfl, hle, XsB.go (fun _ _ => rfl) (fun k hk => hk.2) _ _ hx⟩
section
variable {x : Ex} {v : Value} {w : World} {cols : List Co} {A : Option Addr} {c : Nat} {pl : List Int}
theorem ev_bind (h : EV x v w) (hsm : AllSm x) (hcn : cnt x ≤ 999999) (hT : Tabs w) (hE : ErrT w) (hCo : CoAt w A cols) (hlc : cols.length ≤ c) (hc : c ≤ 9223372036854775807) {q : Option Ex × Int} (hq : whX (plB cols) x = q) :
    Calls Tryz.prog 13 #[v, .slice A cols.length c] w fun e w' => ∃ u, e = .returned (.tuple #[u, .int .i64 q.2]) ∧ Bel w w' ∧ EV (whR q) u w' := by
  obtain ⟨hd, l⟩ := x
  obtain ⟨A', cap, rfl, hl, hx⟩ := h
  subst hq
  exact (bind_any cols A c hlc hc hd l A' cap w hx hl hsm hcn hT hE hCo).mono fun _ _ h => h.ev
theorem ev_move (h : EV x v w) (hsm : AllSm x) (hcn : cnt x ≤ 999999) (hT : Tabs w) (hE : ErrT w) (hIn : InAt w A pl) {q : Option Ex × Int} (hq : whX (plM pl) x = q) :
    Calls Tryz.prog 18 #[v, .slice A pl.length c] w fun e w' => ∃ u, e = .returned (.tuple #[u, .int .i64 q.2]) ∧ Bel w w' ∧ EV (whR q) u w' := by
  obtain ⟨hd, l⟩ := x
  obtain ⟨A', cap, rfl, hl, hx⟩ := h
  subst hq
  exact (move_any pl A c hd l A' cap w hx hl hsm hcn hT hE hIn).mono fun _ _ h => h.ev
theorem ev_type (h : EV x v w) (hsm : AllSm x) (hcn : cnt x ≤ 999999) (hT : Tabs w) (hE : ErrT w) (hCo : CoAt w A cols) {t n : Int} (hq : typA cols x = (t, n)) :
    Calls Tryz.prog 15 #[v, .slice A cols.length c] w fun e w' => ∃ u, e = .returned u ∧ Bel w w' ∧ u = .tuple #[.int .i64 t, .int .i64 n] := by
  obtain ⟨hd, l⟩ := x
  obtain ⟨A', cap, rfl, hl, hx⟩ := h
  refine (type_any cols A c hd l A' cap w hx hl hsm hcn hT hE hCo).mono ?_
  rintro e w' ⟨rfl, hb⟩
  exact ⟨_, rfl, hb, by rw [hq]⟩
theorem ev_uses (h : EV x v w) (hsm : AllSm x) (hcn : cnt x ≤ 999999) (hT : Tabs w) : Calls Tryz.prog 21 #[v] w (UsesE w x) := by
  obtain ⟨hd, l⟩ := x
  obtain ⟨A', cap, rfl, hl, hx⟩ := h
  exact uses_any hd l A' cap w hx hl hsm hcn hT
theorem rv_bind (h : EV x v w) (hsm : AllSm x) (hcn : cnt x ≤ 999999) (hCo : CoAt w A cols) (hcl : cols.length ≤ 9223372036854775807) {q : Option Ex × Int} (hq : whX (plB cols) x = q) :
    Calls Tryz.prog 14 #[v, .slice A cols.length c] w fun e w' => ∃ u, e = .returned (.tuple #[u, .int .i64 q.2]) ∧ Bel w w' ∧ EV (whR q) u w' := by
  obtain ⟨hd, l⟩ := x
  obtain ⟨A', cap, rfl, hl, hx⟩ := h
  subst hq
  exact (rBind_any cols A c hcl hd l A' cap w hx hl hsm hcn hCo).mono fun _ _ h => h.ev
theorem rv_move (h : EV x v w) (hsm : AllSm x) (hcn : cnt x ≤ 999999) (hIn : InAt w A pl) {q : Option Ex × Int} (hq : whX (plM pl) x = q) :
    Calls Tryz.prog 19 #[v, .slice A pl.length c] w fun e w' => ∃ u, e = .returned (.tuple #[u, .int .i64 q.2]) ∧ Bel w w' ∧ EV (whR q) u w' := by
  obtain ⟨hd, l⟩ := x
  obtain ⟨A', cap, rfl, hl, hx⟩ := h
  subst hq
  exact (rMove_any pl A c hd l A' cap w hx hl hsm hcn hIn).mono fun _ _ h => h.ev
theorem rv_type (h : EV x v w) (hsm : AllSm x) (hcn : cnt x ≤ 999999) (hCo : CoAt w A cols) {t n : Int} (hq : typA cols x = (t, n)) :
    Calls Tryz.prog 16 #[v, .slice A cols.length c] w fun e w' => ∃ u, e = .returned u ∧ Bel w w' ∧ u = .tuple #[.int .i64 t, .int .i64 n] := by
  obtain ⟨hd, l⟩ := x
  obtain ⟨A', cap, rfl, hl, hx⟩ := h
  refine (rtype_any cols A c hd l A' cap w hx hl hsm hcn hCo).mono ?_
  rintro e w' ⟨rfl, hb⟩
  exact ⟨_, rfl, hb, by rw [hq]⟩
theorem rv_uses (h : EV x v w) (hsm : AllSm x) (hcn : cnt x ≤ 999999) : Calls Tryz.prog 22 #[v] w (UsesE w x) := by
  obtain ⟨hd, l⟩ := x
  obtain ⟨A', cap, rfl, hl, hx⟩ := h
  exact ruses_any hd l A' cap w hx hl hsm hcn
end
end Go.Proofs.YtofhaokaldpmaaaGreatDoor
end
section
namespace Go.Proofs.YtofhaokaldpmaaaGreatDoor
open Go.RowKit Go.Shelf
attribute [local go_sem] Oper.semAt_some

/-- An expression in a box. -/
def BxE (W : World) (p : Nat) (x : Ex) : Prop := ∃ A cap, W.heap[p]? = some (xbox x.hd A x.kids.length cap) ∧ x.kids.length ≤ cap ∧ XsAt W.heap.size W x.kids A
theorem BxE.kept {W W' : World} {p : Nat} {x : Ex} (h : BxE W p x) (hb : Bel W W') : BxE W' p x := by
  obtain ⟨A, cap, hx, hl, hs⟩ := h
  exact ⟨A, cap, (hb.block p (Array.getElem?_eq_some_iff.1 hx).1).trans hx, hl, XsAt.next hs hb⟩
structure Lw (w W : World) : Prop where
  bel : Below w.heap.size w W
  T : Tabs W
  E : ErrT W
theorem Lw.next {w W W' : World} (h : Lw w W) (hb : Bel W W') : Lw w W' := ⟨bt h.bel hb, h.T.kept hb, h.E.kept hb⟩
abbrev cA (n : Int) : Ex := .mk ⟨2, n, 0, 0, ⟨#[]⟩, ⟨#[117]⟩, ⟨#[97]⟩⟩ []
abbrev cB (n : Int) : Ex := .mk ⟨2, n, 0, 0, ⟨#[]⟩, ⟨#[]⟩, ⟨#[98]⟩⟩ []
abbrev eqE (a b : Ex) : Ex := .mk (hdO 4) [a, b]
abbrev nuE (a : Ex) : Ex := .mk (hdO 16) [a]
theorem smA14 (n : Int) : AllSm (cA n) := by
  simp only [AllSm, AllSmL, and_true]
  exact ⟨Nat.le_of_ble_eq_true rfl, Nat.le_of_ble_eq_true rfl, Nat.le_of_ble_eq_true rfl⟩
theorem smB14 (n : Int) : AllSm (cB n) := by
  simp only [AllSm, AllSmL, and_true]
  exact ⟨Nat.le_of_ble_eq_true rfl, Nat.le_of_ble_eq_true rfl, Nat.le_of_ble_eq_true rfl⟩
theorem smEq {a b : Ex} (ha : AllSm a) (hb : AllSm b) : AllSm (eqE a b) := by
  simp only [AllSm, AllSmL, and_true]
  exact ⟨⟨Nat.le_of_ble_eq_true rfl, Nat.le_of_ble_eq_true rfl, Nat.le_of_ble_eq_true rfl⟩, ha, hb⟩
theorem smNu {a : Ex} (ha : AllSm a) : AllSm (nuE a) := by
  simp only [AllSm, AllSmL, and_true]
  exact ⟨⟨Nat.le_of_ble_eq_true rfl, Nat.le_of_ble_eq_true rfl, Nat.le_of_ble_eq_true rfl⟩, ha⟩
theorem ex_bind : whX (plB twoL) (eqE (cA 0) (cB 0)) = (some (eqE (cA 2) (cB 1)), 0) := by kernel_rfl
theorem nu_bind : whX (plB twoL) (nuE (cB 0)) = (some (nuE (cB 1)), 0) := by kernel_rfl
theorem ex_type : typA twoL (eqE (cA 2) (cB 1)) = (0, 141) := by kernel_rfl
theorem nu_type : typA twoL (nuE (cB 1)) = (1, 0) := by kernel_rfl
theorem ex_move : whX (plM [5, 6, 7]) (eqE (cA 2) (cB 1)) = (some (eqE (cA 7) (cB 6)), 0) := by kernel_rfl
theorem ex_uses : usesL (eqE (cA 7) (cB 6)) = [7, 6] := by kernel_rfl
theorem cnt_eq (a b : Ex) : cnt (eqE a b) = 1 + (cnt a + (cnt b + 0)) := by rw [cnt_mk]; rfl
theorem LV.two {W : World} (a b : Hd) : LV [.mk a [], .mk b []] (.slice (some ⟨W.heap.size, 0, none⟩) 2 2) (W.alloc (.cells (xcells [(a, none, 0, 0), (b, none, 0, 0)]).toArray 35)) :=
  LV.made (q := [(a, none, 0, 0), (b, none, 0, 0)]) (.cons ⟨rfl, rfl, Nat.le_refl _, by show XsB _ _ [] _; rw [XsB]; trivial⟩ (.cons ⟨rfl, rfl, Nat.le_refl _, by show XsB _ _ [] _; rw [XsB]; trivial⟩ .nil))
theorem LV.one {W : World} (a : Hd) : LV [.mk a []] (.slice (some ⟨W.heap.size, 0, none⟩) 1 1) (W.alloc (.cells (xcells [(a, none, 0, 0)]).toArray 35)) :=
  LV.made (q := [(a, none, 0, 0)]) (.cons ⟨rfl, rfl, Nat.le_refl _, by show XsB _ _ [] _; rw [XsB]; trivial⟩ .nil)
theorem rv_opT {n : Int} {l : List Ex} {v : Value} {w : World} (h : LV l v w) :
    Calls Tryz.prog 25 #[.int .i64 n, v] w fun e w' => ∃ u, e = .returned u ∧ Bel w w' ∧ EV (.mk (hdO n) l) u w' := by
  obtain ⟨A, cap, rfl, hl, hx⟩ := h
  exact (refOp_any n A l.length cap w).mono fun _ _ ⟨h1, h2⟩ => ⟨_, h1, h2, A, cap, rfl, hl, XsAt.next hx h2⟩
set_option maxRecDepth 100000 in
set_option maxHeartbeats 8000000 in
theorem lives14_yes (w : World) (hT : Tabs w) (hE : ErrT w) : Calls Tryz.prog 9 #[] w fun e w' => e = .returned (.bool true) ∧ Below w.heap.size w w' := by
  have HM := Lib.hid (show Lw w w from ⟨Below.refl _ _, hT, hE⟩)
  clear hT hE
  have hF1 : findX ⟨#[117]⟩ ⟨#[97]⟩ twoL = some 2 := by kernel_rfl
  have hF2 : findX ⟨#[]⟩ ⟨#[97]⟩ twoL = none := by kernel_rfl
  have HF1 := Lib.hid (fun A W (hC : CoAt W A twoL) (hE : ErrT W) => by have := Find_any ⟨#[117]⟩ ⟨#[97]⟩ A 3 twoL W hC (by decide) (by decide) hE; rw [hF1] at this; exact this)
  have HF2 := Lib.hid (fun A W (hC : CoAt W A twoL) (hE : ErrT W) => by have := Find_any ⟨#[]⟩ ⟨#[97]⟩ A 3 twoL W hC (by decide) (by decide) hE; rw [hF2] at this; exact this)
  clear hF1 hF2
  go_enter Tryz.func9, Tryz.ntmps9
  go_wp2_with fail
  refine (two_any _).mono ?_
  rintro e w1 ⟨u, rfl, hb, A1, rfl, hC1⟩
  have HM1 := Lib.hid (HM.out.next hb)
  have HC1 := Lib.hid hC1
  clear hb hC1 HM
  go_wp2_with fail
  refine (HF1.out A1 _ HC1.out HM1.out.E).mono ?_
  rintro e w2 ⟨rfl, hb⟩
  have HM2 := Lib.hid (HM1.out.next hb)
  clear hb HM1 HC1 HF1
  unfold FnV
  go_wp2_with fail
  refine (two_any _).mono ?_
  rintro e w3 ⟨u, rfl, hb, A1, rfl, hC1⟩
  have HM1 := Lib.hid (HM2.out.next hb)
  have HC1 := Lib.hid hC1
  clear hb hC1 HM2
  go_wp2_with fail
  refine (HF2.out A1 _ HC1.out HM1.out.E).mono ?_
  rintro e w2 ⟨rfl, hb⟩
  have HM2 := Lib.hid (HM1.out.next hb)
  clear hb HM1 HC1 HF2
  unfold FnV
  go_wp2_with fail
  refine (refColumn_any _ _ _).mono ?_
  rintro e w4 ⟨rfl, hb⟩
  have HM3 := Lib.hid (HM2.out.next hb)
  clear hb HM2
  go_wp2_with fail
  refine (refColumn_any _ _ _).mono ?_
  rintro e w5 ⟨rfl, hb⟩
  have HM4 := Lib.hid (HM3.out.next hb)
  clear hb HM3
  go_upto_region 4 with fail
  have hba := ba w5 (xbox (hdC ⟨#[117]⟩ ⟨#[97]⟩) none 0 0)
  have hbb := ba (w5.alloc (xbox (hdC ⟨#[117]⟩ ⟨#[97]⟩) none 0 0)) (xbox (hdC ⟨#[]⟩ ⟨#[98]⟩) none 0 0)
  have HM := Lib.hid (HM4.out.next (bt hba hbb))
  have HA := Lib.hid (((hbb.block _ (by simp)).trans (MapKept.heap_alloc w5 (xbox (hdC ⟨#[117]⟩ ⟨#[97]⟩) none 0 0)).1))
  have HBb := Lib.hid (show ((w5.alloc (xbox (hdC ⟨#[117]⟩ ⟨#[97]⟩) none 0 0)).alloc (xbox (hdC ⟨#[]⟩ ⟨#[98]⟩) none 0 0)).heap[w5.heap.size + 1]? = some (xbox (hdC ⟨#[]⟩ ⟨#[98]⟩) none 0 0) by
    have := (MapKept.heap_alloc (w5.alloc (xbox (hdC ⟨#[117]⟩ ⟨#[97]⟩) none 0 0)) (xbox (hdC ⟨#[]⟩ ⟨#[98]⟩) none 0 0)).1
    rwa [World.size_alloc] at this)
  clear hba hbb HM4
  generalize (w5.alloc (.cells #[.int .i64 2, .int .i64 0, .int .i64 0, .int .i64 0, .string ⟨#[]⟩, .string ⟨#[117]⟩, .string ⟨#[97]⟩, .slice none 0 0] 35)).alloc (.cells #[.int .i64 2, .int .i64 0, .int .i64 0, .int .i64 0, .string ⟨#[]⟩, .string ⟨#[]⟩, .string ⟨#[98]⟩, .slice none 0 0] 35) = W at HM HA HBb ⊢
  generalize w5.heap.size + 1 = pb at HBb ⊢
  generalize w5.heap.size = pa at HA ⊢
  obtain ⟨⟨x0, x1, x2, x3, x4, x5, x6, x7⟩, _⟩ := cell8 HA.out
  obtain ⟨⟨y0, y1, y2, y3, y4, y5, y6, y7⟩, _⟩ := cell8 HBb.out
  have HLV := Lib.hid (LV.two (W := W) (hdC ⟨#[117]⟩ ⟨#[97]⟩) (hdC ⟨#[]⟩ ⟨#[98]⟩))
  go_wp2_with fail
  refine (rv_opT HLV.out).mono ?_
  rintro e w6 ⟨u, rfl, hb, hEV⟩
  have hb := bt (ba W _) hb
  have HM6 := Lib.hid (HM.out.next hb)
  have HB6 := Lib.hid ((hb.block _ (Array.getElem?_eq_some_iff.1 HBb.out).1).trans HBb.out)
  have HE6 := Lib.hid hEV
  clear hb hEV x0 x1 x2 x3 x4 x5 x6 x7 y0 y1 y2 y3 y4 y5 y6 y7 HA HBb HM HLV
  go_wp2_with fail
  refine (two_any _).mono ?_
  rintro e w7 ⟨_, rfl, hb, A1, rfl, hC1⟩
  have HM7 := Lib.hid (HM6.out.next hb)
  have HB7 := Lib.hid ((hb.block _ (Array.getElem?_eq_some_iff.1 HB6.out).1).trans HB6.out)
  have HE7 := Lib.hid (EV.next hb HE6.out)
  have HC7 := Lib.hid hC1
  clear hb hC1 HM6 HB6 HE6
  go_wp2_with fail
  refine (ev_bind HE7.out (smEq (smA14 0) (smB14 0)) (by rw [cnt_eq]; decide) HM7.out.T HM7.out.E HC7.out (by decide) (by decide) ex_bind).mono ?_
  rintro e w8 ⟨u2, rfl, hb, hEV⟩
  have HM8 := Lib.hid (HM7.out.next hb)
  have HB8 := Lib.hid ((hb.block _ (Array.getElem?_eq_some_iff.1 HB7.out).1).trans HB7.out)
  clear hb HM7 HB7 HE7 HC7
  obtain ⟨A8, cap8, hu, hle8, hx8⟩ := (show EV (eqE (cA 2) (cB 1)) u2 w8 from hEV)
  obtain rfl : u2 = XV (hdO 4) A8 2 cap8 := hu
  have HE8 := Lib.hid (show EV (eqE (cA 2) (cB 1)) (XV (hdO 4) A8 2 cap8) w8 from ⟨A8, cap8, rfl, hle8, hx8⟩)
  clear hEV hle8 hx8
  go_upto_region 5 with fail
  have hbx := ba w8 (xbox (hdO 4) A8 2 cap8)
  have HM9 := Lib.hid (HM8.out.next hbx)
  have HB9 := Lib.hid ((hbx.block _ (Array.getElem?_eq_some_iff.1 HB8.out).1).trans HB8.out)
  have HX9 := Lib.hid (MapKept.heap_alloc w8 (xbox (hdO 4) A8 2 cap8)).1
  have HE9 := Lib.hid (EV.next hbx HE8.out)
  generalize w8.alloc (.cells #[.int .i64 3, .int .i64 4, .int .i64 0, .int .i64 0, .string ⟨#[]⟩, .string ⟨#[]⟩, .string ⟨#[]⟩, .slice A8 2 cap8] 35) = V9 at HM9 HB9 HX9 HE9 ⊢
  generalize w8.heap.size = p7 at HX9 ⊢
  clear hbx HM8 HB8 HE8
  have HU9 := Lib.hid (Array.getElem?_eq_some_iff.1 HX9.out).1
  go_wp2_with fail
  refine wp_region_inv (n := 8) (ds := [some 40, some 41, some 42, some 39, some 43, some 44, some 9, some 10]) (need := [[], [], [0, 1], [0, 1, 2], [0, 1, 2, 3], [0, 1, 2, 3], [0, 1, 2, 3, 4], [0, 1, 2, 3, 4, 5, 6]]) (R := Bel) (Gs := [
      (EV (eqE (cA 2) (cB 1))),
      (fun (v : Value) (w : World) => ∃ A, v = .slice A 3 3 ∧ CoAt w A twoL),
      (fun v _ => v = .tuple #[.int .i64 0, .int .i64 141]),
      (fun v _ => v = .tuple #[.int .i64 0, .int .i64 141]),
      (fun v _ => v = .int .i64 0),
      (fun v _ => v = .int .i64 141),
      (fun v _ => v = .int .i64 0),
      (fun v _ => v = .int .i64 141)])
    (by kernel_rfl) (by kernel_rfl) (by decide) (by kernel_rfl) (by kernel_rfl) (by kernel_rfl) (fun x => Below.refl _ x) (fun _ _ _ h k => bt h k) ?_ ?_
  · refine Each.cons rfl (EV.keeps _) (StepOk.plain (g := (EV (eqE (cA 2) (cB 1)))) rfl rfl rfl (fun a w hs hR hr pre => ?_)) ?_
    · have ep : a.eval (.tmp 7) = .pointer (some ⟨p7, 0, none⟩) := hr 7 (by decide)
      exact wp_pure (run_ldE rfl ep (XC.ofBox ((hR.block p7 HU9.out).trans HX9.out))) (EV.next (bt (Below.drew (Below.refl _ _)) hR) HE9.out)
    refine Each.cons rfl (fun _ _ _ hb ⟨A, e, h⟩ => ⟨A, e, h.kept hb⟩) (StepOk.plain (g := (fun (v : Value) (w : World) => ∃ A, v = .slice A 3 3 ∧ CoAt w A twoL)) rfl rfl rfl (fun a w hs hR hr pre => ?_)) ?_
    · exact wp_fn (vs := #[]) rfl Tryz.func23 (by kernel_rfl) (by kernel_rfl) (by simp only [List.map_toArray, List.map_nil]) (two_any w)
    refine Each.cons rfl (Keeps.const _) (StepOk.plain (g := (fun v _ => v = .tuple #[.int .i64 0, .int .i64 141])) rfl rfl rfl (fun a w hs hR hr pre => ?_)) ?_
    · have h40 : (EV (eqE (cA 2) (cB 1))) (a.eval (.tmp 40)) w := pre 0 (by decide)
      obtain ⟨A9, e41, hC9⟩ : (fun (v : Value) (w : World) => ∃ A, v = .slice A 3 3 ∧ CoAt w A twoL) (a.eval (.tmp 41)) w := pre 1 (by decide)
      exact wp_fn (vs := #[a.eval (.tmp 40), .slice A9 3 3]) rfl Tryz.func15 (by kernel_rfl) (by kernel_rfl) (by simp only [List.map_toArray, List.map_cons, List.map_nil, e41]) (ev_type h40 (smEq (smA14 2) (smB14 1)) (by rw [cnt_eq]; decide) (HM9.out.T.kept (bt (Below.drew (Below.refl _ _)) hR)) (HM9.out.E.kept (bt (Below.drew (Below.refl _ _)) hR)) hC9 ex_type)
    refine Each.cons rfl (Keeps.const _) (StepOk.plain (g := (fun v _ => v = .tuple #[.int .i64 0, .int .i64 141])) rfl rfl rfl (fun a w hs hR hr pre => ?_)) ?_
    · have e42 : a.eval (.tmp 42) = .tuple #[.int .i64 0, .int .i64 141] := pre 2 (by decide)
      exact wp_pure (run_move rfl) e42
    refine Each.cons rfl (Keeps.const _) (StepOk.plain (g := (fun v _ => v = .int .i64 0)) rfl rfl rfl (fun a w hs hR hr pre => ?_)) ?_
    · have e39 : a.eval (.tmp 39) = .tuple #[.int .i64 0, .int .i64 141] := pre 3 (by decide)
      exact wp_pure (run_xt0 rfl e39) rfl
    refine Each.cons rfl (Keeps.const _) (StepOk.plain (g := (fun v _ => v = .int .i64 141)) rfl rfl rfl (fun a w hs hR hr pre => ?_)) ?_
    · have e39 : a.eval (.tmp 39) = .tuple #[.int .i64 0, .int .i64 141] := pre 3 (by decide)
      exact wp_pure (run_xt1 rfl e39) rfl
    refine Each.cons rfl (Keeps.const _) (StepOk.plain (g := (fun v _ => v = .int .i64 0)) rfl rfl rfl (fun a w hs hR hr pre => ?_)) ?_
    · have e43 : a.eval (.tmp 43) = .int .i64 0 := pre 4 (by decide)
      exact wp_pure (run_assign rfl) e43
    refine Each.cons rfl (Keeps.const _) (StepOk.plain (g := (fun v _ => v = .int .i64 141)) rfl rfl rfl (fun a w hs hR hr pre => ?_)) ?_
    · have e44 : a.eval (.tmp 44) = .int .i64 141 := pre 5 (by decide)
      exact wp_pure (run_assign rfl) e44
    exact Each.nil
  · intro v w1 hB hG
    have e6 : v 6 = .int .i64 0 := hG 6 (by decide)
    have e7 : v 7 = .int .i64 141 := hG 7 (by decide)
    clear hG
    simp only [List.take_succ_cons, List.take_zero, puts, Act.put, List.setIfInBounds_toArray, List.set_cons_zero, List.set_cons_succ, Nat.reduceAdd, e6, e7]
    have hB := bt (Below.drew (Below.refl _ _)) hB
    have HMa := Lib.hid (HM9.out.next hB)
    have HBa := Lib.hid ((hB.block _ (Array.getElem?_eq_some_iff.1 HB9.out).1).trans HB9.out)
    have HXa := Lib.hid ((hB.block _ HU9.out).trans HX9.out)
    have HEa := Lib.hid (EV.next hB HE9.out)
    clear hB
    refine wpAny_done (by kernel_rfl) ?_ _
    obtain ⟨⟨y0, y1, y2, y3, y4, y5, y6, y7⟩, _⟩ := cell8 HBa.out
    have HLV := Lib.hid (LV.one (W := w1) (hdC ⟨#[]⟩ ⟨#[98]⟩))
    go_wp2_with fail
    refine (rv_opT HLV.out).mono ?_
    rintro e w6 ⟨u, rfl, hb, hEV⟩
    have hb := bt (ba w1 _) hb
    have HM6 := Lib.hid (HMa.out.next hb)
    have HX6 := Lib.hid ((hb.block _ (Array.getElem?_eq_some_iff.1 HXa.out).1).trans HXa.out)
    have HF6 := Lib.hid (EV.next hb HEa.out)
    have HE6 := Lib.hid hEV
    clear hb hEV y0 y1 y2 y3 y4 y5 y6 y7 HMa HBa HXa HEa HLV
    go_wp2_with fail
    refine (two_any _).mono ?_
    rintro e w7 ⟨_, rfl, hb, A1, rfl, hC1⟩
    have HM7 := Lib.hid (HM6.out.next hb)
    have HX7 := Lib.hid ((hb.block _ (Array.getElem?_eq_some_iff.1 HX6.out).1).trans HX6.out)
    have HF7 := Lib.hid (EV.next hb HF6.out)
    have HE7 := Lib.hid (EV.next hb HE6.out)
    have HC7 := Lib.hid hC1
    clear hb hC1 HM6 HX6 HE6 HF6
    go_wp2_with fail
    refine (ev_bind HE7.out (smNu (smB14 0)) (by rw [cnt_mk]; decide) HM7.out.T HM7.out.E HC7.out (by decide) (by decide) nu_bind).mono ?_
    rintro e w9 ⟨u2, rfl, hb, hEV⟩
    have HM8 := Lib.hid (HM7.out.next hb)
    have HB8 := Lib.hid ((hb.block _ (Array.getElem?_eq_some_iff.1 HX7.out).1).trans HX7.out)
    have HG8 := Lib.hid (EV.next hb HF7.out)
    clear hb HM7 HX7 HE7 HC7 HF7
    obtain ⟨A9, cap9, hu, hle9, hx9⟩ := (show EV (nuE (cB 1)) u2 w9 from hEV)
    obtain rfl : u2 = XV (hdO 16) A9 1 cap9 := hu
    have HE8 := Lib.hid (show EV (nuE (cB 1)) (XV (hdO 16) A9 1 cap9) w9 from ⟨A9, cap9, rfl, hle9, hx9⟩)
    clear hEV hle9 hx9
    go_upto_region 7 with fail
    have hbx := ba w9 (xbox (hdO 16) A9 1 cap9)
    have HM8b := Lib.hid (HM8.out.next hbx)
    have HB8b := Lib.hid ((hbx.block _ (Array.getElem?_eq_some_iff.1 HB8.out).1).trans HB8.out)
    have HX8b := Lib.hid (MapKept.heap_alloc w9 (xbox (hdO 16) A9 1 cap9)).1
    have HE8b := Lib.hid (EV.next hbx HE8.out)
    have HG9 := Lib.hid (EV.next hbx HG8.out)
    generalize w9.alloc (.cells #[.int .i64 3, .int .i64 16, .int .i64 0, .int .i64 0, .string ⟨#[]⟩, .string ⟨#[]⟩, .string ⟨#[]⟩, .slice A9 1 cap9] 35) = V8b at HM8b HB8b HX8b HE8b HG9 ⊢
    generalize w9.heap.size = p11 at HX8b ⊢
    clear hbx HM8 HB8 HE8 HG8
    have HU8b := Lib.hid (Array.getElem?_eq_some_iff.1 HX8b.out).1
    go_wp2_with fail
    refine wp_region_inv (n := 8) (ds := [some 54, some 55, some 56, some 53, some 57, some 58, some 13, some 14]) (need := [[], [], [0, 1], [0, 1, 2], [0, 1, 2, 3], [0, 1, 2, 3], [0, 1, 2, 3, 4], [0, 1, 2, 3, 4, 5, 6]]) (R := Bel) (Gs := [
        (EV (nuE (cB 1))),
        (fun (v : Value) (w : World) => ∃ A, v = .slice A 3 3 ∧ CoAt w A twoL),
        (fun v _ => v = .tuple #[.int .i64 1, .int .i64 0]),
        (fun v _ => v = .tuple #[.int .i64 1, .int .i64 0]),
        (fun v _ => v = .int .i64 1),
        (fun v _ => v = .int .i64 0),
        (fun v _ => v = .int .i64 1),
        (fun v _ => v = .int .i64 0)])
      (by kernel_rfl) (by kernel_rfl) (by decide) (by kernel_rfl) (by kernel_rfl) (by kernel_rfl) (fun x => Below.refl _ x) (fun _ _ _ h k => bt h k) ?_ ?_
    · refine Each.cons rfl (EV.keeps _) (StepOk.plain (g := (EV (nuE (cB 1)))) rfl rfl rfl (fun a w hs hR hr pre => ?_)) ?_
      · have ep : a.eval (.tmp 11) = .pointer (some ⟨p11, 0, none⟩) := hr 11 (by decide)
        exact wp_pure (run_ldE rfl ep (XC.ofBox ((hR.block p11 HU8b.out).trans HX8b.out))) (EV.next (bt (Below.drew (Below.refl _ _)) hR) HE8b.out)
      refine Each.cons rfl (fun _ _ _ hb ⟨A, e, h⟩ => ⟨A, e, h.kept hb⟩) (StepOk.plain (g := (fun (v : Value) (w : World) => ∃ A, v = .slice A 3 3 ∧ CoAt w A twoL)) rfl rfl rfl (fun a w hs hR hr pre => ?_)) ?_
      · exact wp_fn (vs := #[]) rfl Tryz.func23 (by kernel_rfl) (by kernel_rfl) (by simp only [List.map_toArray, List.map_nil]) (two_any w)
      refine Each.cons rfl (Keeps.const _) (StepOk.plain (g := (fun v _ => v = .tuple #[.int .i64 1, .int .i64 0])) rfl rfl rfl (fun a w hs hR hr pre => ?_)) ?_
      · have h54 : (EV (nuE (cB 1))) (a.eval (.tmp 54)) w := pre 0 (by decide)
        obtain ⟨A9, e55, hC9⟩ : (fun (v : Value) (w : World) => ∃ A, v = .slice A 3 3 ∧ CoAt w A twoL) (a.eval (.tmp 55)) w := pre 1 (by decide)
        exact wp_fn (vs := #[a.eval (.tmp 54), .slice A9 3 3]) rfl Tryz.func15 (by kernel_rfl) (by kernel_rfl) (by simp only [List.map_toArray, List.map_cons, List.map_nil, e55]) (ev_type h54 (smNu (smB14 1)) (by rw [cnt_mk]; decide) (HM8b.out.T.kept (bt (Below.drew (Below.refl _ _)) hR)) (HM8b.out.E.kept (bt (Below.drew (Below.refl _ _)) hR)) hC9 nu_type)
      refine Each.cons rfl (Keeps.const _) (StepOk.plain (g := (fun v _ => v = .tuple #[.int .i64 1, .int .i64 0])) rfl rfl rfl (fun a w hs hR hr pre => ?_)) ?_
      · have e56 : a.eval (.tmp 56) = .tuple #[.int .i64 1, .int .i64 0] := pre 2 (by decide)
        exact wp_pure (run_move rfl) e56
      refine Each.cons rfl (Keeps.const _) (StepOk.plain (g := (fun v _ => v = .int .i64 1)) rfl rfl rfl (fun a w hs hR hr pre => ?_)) ?_
      · have e53 : a.eval (.tmp 53) = .tuple #[.int .i64 1, .int .i64 0] := pre 3 (by decide)
        exact wp_pure (run_xt0 rfl e53) rfl
      refine Each.cons rfl (Keeps.const _) (StepOk.plain (g := (fun v _ => v = .int .i64 0)) rfl rfl rfl (fun a w hs hR hr pre => ?_)) ?_
      · have e53 : a.eval (.tmp 53) = .tuple #[.int .i64 1, .int .i64 0] := pre 3 (by decide)
        exact wp_pure (run_xt1 rfl e53) rfl
      refine Each.cons rfl (Keeps.const _) (StepOk.plain (g := (fun v _ => v = .int .i64 1)) rfl rfl rfl (fun a w hs hR hr pre => ?_)) ?_
      · have e57 : a.eval (.tmp 57) = .int .i64 1 := pre 4 (by decide)
        exact wp_pure (run_assign rfl) e57
      refine Each.cons rfl (Keeps.const _) (StepOk.plain (g := (fun v _ => v = .int .i64 0)) rfl rfl rfl (fun a w hs hR hr pre => ?_)) ?_
      · have e58 : a.eval (.tmp 58) = .int .i64 0 := pre 5 (by decide)
        exact wp_pure (run_assign rfl) e58
      exact Each.nil
    · intro v w2 hB hG
      have e6 : v 6 = .int .i64 1 := hG 6 (by decide)
      have e7 : v 7 = .int .i64 0 := hG 7 (by decide)
      clear hG
      simp only [List.take_succ_cons, List.take_zero, puts, Act.put, List.setIfInBounds_toArray, List.set_cons_zero, List.set_cons_succ, Nat.reduceAdd, e6, e7]
      have hB := bt (Below.drew (Below.refl _ _)) hB
      have HMa := Lib.hid (HM8b.out.next hB)
      have HBa := Lib.hid ((hB.block _ (Array.getElem?_eq_some_iff.1 HB8b.out).1).trans HB8b.out)
      have HXa := Lib.hid hB.size
      have HGa := Lib.hid (EV.next hB HG9.out)
      clear hB
      refine wpAny_done (by kernel_rfl) ?_ _
      obtain ⟨⟨y0, y1, y2, y3, y4, y5, y6, y7⟩, _⟩ := cell8 HBa.out
      have hIn : InAt (w2.alloc (.cells #[.int .i64 5, .int .i64 6, .int .i64 7] 3)) (some ⟨w2.heap.size, 0, none⟩) [5, 6, 7] := .inr ⟨w2.heap.size, 0, rfl, by simp, fun i v hv => by
        have hn := (MapKept.heap_alloc w2 (.cells #[.int .i64 5, .int .i64 6, .int .i64 7] 3)).1
        simp only [World.cell?, hn]
        match i, hv with
        | 0, hv => obtain rfl := Option.some.inj hv; rfl
        | 1, hv => obtain rfl := Option.some.inj hv; rfl
        | 2, hv => obtain rfl := Option.some.inj hv; rfl⟩
      have hbi := ba w2 (.cells #[.int .i64 5, .int .i64 6, .int .i64 7] 3)
      have HMi := Lib.hid (HMa.out.next hbi)
      have HMv := Lib.hid (ev_move (c := 3) (EV.next hbi HGa.out) (smEq (smA14 2) (smB14 1)) (by rw [cnt_eq]; decide) HMi.out.T HMi.out.E hIn ex_move)
      clear hIn hbi
      go_wp2_with fail
      refine HMv.out.mono ?_
      rintro e w10 ⟨u3, rfl, hb, hEV⟩
      have HM10 := Lib.hid (HMi.out.next hb)
      clear hb HMi HMa HBa HXa HGa HMv y0 y1 y2 y3 y4 y5 y6 y7
      obtain ⟨A10, cap10, hu, hle10, hx10⟩ := (show EV (eqE (cA 7) (cB 6)) u3 w10 from hEV)
      obtain rfl : u3 = XV (hdO 4) A10 2 cap10 := hu
      have HE10 := Lib.hid (show EV (eqE (cA 7) (cB 6)) (XV (hdO 4) A10 2 cap10) w10 from ⟨A10, cap10, rfl, hle10, hx10⟩)
      clear hEV hle10 hx10
      go_upto_region 9 with fail
      have hbx := ba w10 (xbox (hdO 4) A10 2 cap10)
      have HM11 := Lib.hid (HM10.out.next hbx)
      have HX11 := Lib.hid (MapKept.heap_alloc w10 (xbox (hdO 4) A10 2 cap10)).1
      have HE11 := Lib.hid (EV.next hbx HE10.out)
      generalize w10.alloc (.cells #[.int .i64 3, .int .i64 4, .int .i64 0, .int .i64 0, .string ⟨#[]⟩, .string ⟨#[]⟩, .string ⟨#[]⟩, .slice A10 2 cap10] 35) = w11 at HM11 HX11 HE11 ⊢
      generalize w10.heap.size = p15 at HX11 ⊢
      clear hbx HM10 HE10
      obtain ⟨⟨y0, y1, y2, y3, y4, y5, y6, y7⟩, _⟩ := cell8 HX11.out
      have HUs := Lib.hid (ev_uses HE11.out (smEq (smA14 7) (smB14 6)) (by rw [cnt_eq]; decide) HM11.out.T)
      go_wp2_with fail
      refine HUs.out.mono ?_
      rintro e w12 ⟨A12, cap12, ys, rfl, hi12, hp, hm, hb⟩
      obtain rfl : ys = [6, 7] := up_eq hp (by decide) fun n => by rw [hm, ex_uses]; simp; omega
      have HB12 := Lib.hid (HM11.out.next hb).bel
      obtain ⟨b12, o12, rfl, _, d0⟩ := hi12.at (i := 0) (by simp)
      obtain ⟨b12', o12', hbb, _, d1⟩ := hi12.at (i := 1) (by simp)
      obtain ⟨rfl, rfl⟩ : b12 = b12' ∧ o12 = o12' := by simpa using hbb
      simp only [List.getElem_cons_zero, List.getElem_cons_succ, Nat.add_zero] at d0 d1
      clear hi12 hp hm hb hbb y0 y1 y2 y3 y4 y5 y6 y7 HUs HX11 HE11 HM11
      simp only [List.length_cons, List.length_nil, Nat.zero_add, Nat.reduceAdd]
      go_wp2_with fail
      go_ret
      exact ⟨rfl, HB12.out⟩
end Go.Proofs.YtofhaokaldpmaaaGreatDoor
end
section
namespace Go.Proofs.YtofhaokaldpmaaaGreatDoor
open Go.RowKit Go.Shelf

section
variable {pl : Hd → Option Nat}
theorem rbH_k (h : Hd) : (rbH pl h).k = h.k := by unfold rbH; split <;> rfl
theorem rbH_no {h : Hd} (hk : h.k ≠ 2) : rbH pl h = h := by unfold rbH; rw [if_neg hk]
theorem rbH_yes {h : Hd} (hk : h.k = 2) : rbH pl h = ⟨h.k, ((pl h).getD 0 : Nat), h.vk, h.vn, h.vs, h.tab, h.col⟩ := by unfold rbH; rw [if_pos hk]
mutual
theorem cnt_rb : ∀ x : Ex, cnt (rbX pl x) = cnt x
  | .mk h l => by rw [rbX, cnt, cnt, cntL_rb l]
theorem cntL_rb : ∀ l : List Ex, cntL (rbXs pl l) = cntL l
  | [] => by rw [rbXs]
  | x :: r => by rw [rbXs, cntL, cntL, cnt_rb x, cntL_rb r]
end
theorem sm_rb {h : Hd} (hs : Sm h) : Sm (rbH pl h) := by
  by_cases hk : h.k = 2
  · rw [rbH_yes hk]; obtain ⟨a, b, c⟩ := hs; exact ⟨a, b, c⟩
  · rw [rbH_no hk]; exact hs
mutual
theorem allSm_rb : ∀ x : Ex, AllSm x → AllSm (rbX pl x)
  | .mk h l, hs => by
    rw [AllSm] at hs
    rw [rbX, AllSm]
    exact ⟨sm_rb hs.1, allSmL_rb l hs.2⟩
theorem allSmL_rb : ∀ l : List Ex, AllSmL l → AllSmL (rbXs pl l)
  | [], _ => by rw [rbXs, AllSmL]; trivial
  | x :: r, hs => by
    rw [AllSmL] at hs
    rw [rbXs, AllSmL]
    exact ⟨allSm_rb x hs.1, allSmL_rb r hs.2⟩
end
theorem fits_rb {h : Hd} {len : Nat} (hp : ∀ n, pl h = some n → n < 32) (hf : fitsB h len = true) (ho : h.k = 2 → (pl h).isSome = true) : fitsB (rbH pl h) len = true := by
  by_cases hk : h.k = 2
  · have ho := ho hk
    rw [rbH_yes hk]
    unfold fitsB at hf ⊢
    have h1 : ¬ h.k = 1 := by omega
    rw [if_neg h1, if_pos hk] at hf
    simp only [if_neg h1, if_pos hk]
    cases hn : pl h with
    | none => rw [hn] at ho; cases ho
    | some n =>
      have := hp n hn
      simp only [Bool.and_eq_true, decide_eq_true_eq] at hf ⊢
      obtain ⟨⟨⟨⟨a, _⟩, _⟩, d⟩, e⟩ := hf
      refine ⟨⟨⟨⟨a, ?_⟩, ?_⟩, d⟩, e⟩
      · show (0 : Int) ≤ ((n : Nat) : Int); omega
      · show ((n : Nat) : Int) < 32; omega
  · rw [rbH_no hk]; exact hf
mutual
theorem good_rb (hp : ∀ h n, pl h = some n → n < 32) : ∀ (x : Ex) (d : Nat) (ag : Bool), goodB x d ag = true → okP pl x = true → goodB (rbX pl x) d ag = true
  | .mk h l, d, ag, hg, ho => by
    rw [goodB_mk] at hg
    rw [okP_mk, Bool.and_eq_true] at ho
    simp only [Bool.and_eq_true] at hg
    rw [rbX, goodB_mk, rbH_k, rbXs_len]
    simp only [Bool.and_eq_true]
    exact ⟨⟨hg.1.1, fits_rb (hp h) hg.1.2 fun hk => by have := ho.1; rwa [if_pos hk] at this⟩, goods_rb hp l (d + 1) (ag || h.k == 4) hg.2 ho.2⟩
theorem goods_rb (hp : ∀ h n, pl h = some n → n < 32) : ∀ (l : List Ex) (d : Nat) (ag : Bool), goodBs l d ag = true → okPs pl l = true → goodBs (rbXs pl l) d ag = true
  | [], d, ag, _, _ => by rw [rbXs, goodBs]
  | x :: r, d, ag, hg, ho => by
    rw [goodBs, Bool.and_eq_true] at hg
    rw [okPs_cons, Bool.and_eq_true] at ho
    rw [rbXs, goodBs, Bool.and_eq_true]
    exact ⟨good_rb hp x d ag hg.1 ho.1, goods_rb hp r d ag hg.2 ho.2⟩
end
theorem okX_rb (hp : ∀ h n, pl h = some n → n < 32) {x : Ex} (hx : okX x = true) (ho : okP pl x = true) : okX (rbX pl x) = true := by
  unfold okX at hx ⊢
  rw [Bool.and_eq_true, decide_eq_true_eq] at hx ⊢
  exact ⟨good_rb hp x 1 false hx.1 ho, by rw [cnt_rb]; exact hx.2⟩
mutual
theorem okP_twice (hq : ∀ h, pl (rbH pl h) = pl h) : ∀ x : Ex, okP pl (rbX pl x) = okP pl x
  | .mk h l => by rw [rbX, okP_mk, okP_mk, rbH_k, hq, okPs_twice hq l]
theorem okPs_twice (hq : ∀ h, pl (rbH pl h) = pl h) : ∀ l : List Ex, okPs pl (rbXs pl l) = okPs pl l
  | [] => by rw [rbXs]
  | x :: r => by rw [rbXs, okPs_cons, okPs_cons, okP_twice hq x, okPs_twice hq r]
end
theorem rbH_twice (hq : ∀ h, pl (rbH pl h) = pl h) (h : Hd) : rbH pl (rbH pl h) = rbH pl h := by
  by_cases hk : h.k = 2
  · rw [rbH_yes (h := rbH pl h) (by rw [rbH_k]; exact hk), hq, rbH_yes hk]
  · rw [rbH_no (h := rbH pl h) (by rw [rbH_k]; exact hk)]
mutual
theorem rb_twice (hq : ∀ h, pl (rbH pl h) = pl h) : ∀ x : Ex, rbX pl (rbX pl x) = rbX pl x
  | .mk h l => by rw [rbX, rbX, rbH_twice hq, rbs_twice hq l]
theorem rbs_twice (hq : ∀ h, pl (rbH pl h) = pl h) : ∀ l : List Ex, rbXs pl (rbXs pl l) = rbXs pl l
  | [] => by rw [rbXs, rbXs]
  | x :: r => by rw [rbXs, rbXs, rb_twice hq x, rbs_twice hq r]
end
mutual
theorem ty_rb {cols more : List Co} (hC : ∀ h : Hd, h.k = 2 → 0 ≤ h.n → (pl h).isSome = true → colT more ((pl h).getD 0 : Nat) = colT cols h.n) : ∀ x : Ex, FitX x → okP pl x = true → tyX more (rbX pl x) = tyX cols x
  | .mk h l, hf, ho => by
    rw [FitX] at hf
    rw [okP_mk, Bool.and_eq_true] at ho
    rw [rbX, tyX, tyX, tys_rb hC l hf.2 ho.2]
    by_cases hk : h.k = 2
    · have h0 : 0 ≤ h.n := by
        rcases fit_kind hf.1 with h1 | ⟨_, h1, _⟩ | ⟨h1, _⟩ | ⟨h1, _⟩
        · omega
        · exact h1
        · omega
        · omega
      have hs : (pl h).isSome = true := by have := ho.1; rwa [if_pos hk] at this
      rw [rbH_yes hk]
      simp only [if_pos hk, hC h hk h0 hs]
    · rw [rbH_no hk]
      simp only [if_neg hk]
theorem tys_rb {cols more : List Co} (hC : ∀ h : Hd, h.k = 2 → 0 ≤ h.n → (pl h).isSome = true → colT more ((pl h).getD 0 : Nat) = colT cols h.n) : ∀ l : List Ex, FitXs l → okPs pl l = true → tysX more (rbXs pl l) = tysX cols l
  | [], _, _ => by rw [rbXs, tysX, tysX]
  | x :: r, hf, ho => by
    rw [FitXs] at hf
    rw [okPs_cons, Bool.and_eq_true] at ho
    rw [rbXs, tysX, tysX, ty_rb hC x hf.1 ho.1, tys_rb hC r hf.2 ho.2]
end
end
section
variable {cols : List Co}
theorem find_lt {tab col : ByteArray} {n : Nat} (h : findX tab col cols = some n) : n < 32 ∧ n < cols.length := by
  unfold findX at h
  cases hf : cols.findIdx? (meantB tab col) with
  | none => rw [hf] at h; cases h
  | some i =>
    rw [hf] at h
    simp only at h
    split at h
    · rename_i hc
      obtain rfl := Option.some.inj h
      exact ⟨hc.1, (List.findIdx?_eq_some_iff_getElem.1 hf).1⟩
    · cases h
theorem plB_lt (h : Hd) (n : Nat) (e : plB cols h = some n) : n < 32 := (find_lt e).1
theorem plB_twice (h : Hd) : plB cols (rbH (plB cols) h) = plB cols h := by
  by_cases hk : h.k = 2
  · rw [rbH_yes hk]; rfl
  · rw [rbH_no hk]
theorem plM_lt {places : List Int} (h : Hd) (n : Nat) (e : plM places h = some n) : n < 32 := by
  unfold plM at e
  split at e
  · split at e
    · have := Option.some.inj e; omega
    · cases e
  · cases e
theorem aggT_err {n : Int} {ts : List Int} {c : Int} (h : aggT n ts = .error c) : c = 141 := by
  unfold aggT at h
  split at h
  · exact onlyT_err h
  · split at h <;> cases h
theorem opT_err {n : Int} {ts : List Int} {c : Int} (h : opT n ts = .error c) : c = 141 := by
  unfold opT at h
  split at h
  · exact onlyT_err h
  · split at h
    · exact onlyT_err h
    · split at h
      · cases h
      · exact compT_err h
mutual
theorem ty_bound : ∀ (x : Ex) (c : Int), okP (plB cols) x = true → tyX cols (rbX (plB cols) x) = .error c → c = 141
  | .mk h l, c, ho, he => by
    rw [okP_mk, Bool.and_eq_true] at ho
    rw [rbX, tyX] at he
    cases ht : tysX cols (rbXs (plB cols) l) with
    | error c' =>
      rw [ht] at he
      obtain rfl : c' = c := by simpa using he
      exact tys_bound l c' ho.2 ht
    | ok ts =>
      rw [ht] at he
      simp only at he
      split at he
      · cases he
      · split at he
        · rename_i hk
          rw [rbH_k] at hk
          have hs : (plB cols h).isSome = true := by have := ho.1; rwa [if_pos hk] at this
          rw [rbH_yes hk] at he
          cases hn : plB cols h with
          | none => rw [hn] at hs; cases hs
          | some n =>
            rw [hn] at he
            have := (find_lt hn).2
            simp only [Option.getD_some, colT] at he
            rw [if_pos (by omega)] at he
            cases he
        · split at he
          · exact aggT_err he
          · exact opT_err he
theorem tys_bound : ∀ (l : List Ex) (c : Int), okPs (plB cols) l = true → tysX cols (rbXs (plB cols) l) = .error c → c = 141
  | [], c, _, he => by rw [rbXs, tysX] at he; cases he
  | x :: r, c, ho, he => by
    rw [okPs_cons, Bool.and_eq_true] at ho
    rw [rbXs, tysX] at he
    cases hx : tyX cols (rbX (plB cols) x) with
    | error c' =>
      rw [hx] at he
      obtain rfl : c' = c := by simpa using he
      exact ty_bound x c' ho.1 hx
    | ok t =>
      rw [hx] at he
      simp only at he
      cases hr : tysX cols (rbXs (plB cols) r) with
      | error c' =>
        rw [hr] at he
        obtain rfl : c' = c := by simpa using he
        exact tys_bound r c' ho.2 hr
      | ok ts => rw [hr] at he; cases he
end
/-- What is bound has a type, or ErrType. -/
theorem typ_bound {x : Ex} (hx : okX x = true) (ho : okP (plB cols) x = true) : (typA cols (rbX (plB cols) x)).2 = 0 ∨ (typA cols (rbX (plB cols) x)).2 = 141 := by
  unfold typA
  rw [if_pos (okX_rb plB_lt hx ho)]
  cases ht : tyX cols (rbX (plB cols) x) with
  | ok t => exact .inl rfl
  | error c => exact .inr (ty_bound x c ho ht)
/-- Bound twice. -/
theorem wh_twice {x : Ex} (hx : okX x = true) (ho : okP (plB cols) x = true) : whX (plB cols) (rbX (plB cols) x) = (some (rbX (plB cols) x), 0) := by
  rw [whX_yes (okX_rb plB_lt hx ho) (by rw [okP_twice plB_twice]; exact ho), rb_twice plB_twice]
/-- The places of columns that stand k later. -/
def plcs (k n : Nat) : List Int := (List.range n).map fun i : Nat => (i : Int) + (k : Int)
theorem plcs_len (k n : Nat) : (plcs k n).length = n := by simp [plcs]
theorem plcs_at {k n i : Nat} (h : i < n) : (plcs k n)[i]? = some ((i : Int) + (k : Int)) := by simp [plcs, List.getElem?_range h]
theorem plcs_app (k n : Nat) : plcs k n ++ [(n : Int) + (k : Int)] = plcs k (n + 1) := by simp [plcs, List.range_succ]
theorem typ_moved {k : Nat} {z : Co} {x : Ex} (hx : okX x = true) (ho : okP (plM (plcs k cols.length)) x = true) : typA (List.replicate k z ++ cols) (rbX (plM (plcs k cols.length)) x) = typA cols x := by
  unfold typA
  rw [if_pos (okX_rb plM_lt hx ho), if_pos hx]
  rw [ty_rb (cols := cols) (fun h _ h0 hs => ?_) x (okX_fit hx) ho]
  unfold plM at hs ⊢
  rw [plcs_len] at hs ⊢
  by_cases hn : h.n < (cols.length : Int)
  · rw [if_pos hn] at hs ⊢
    have hg : (plcs k cols.length).getD h.n.toNat 0 = h.n + (k : Int) := by
      rw [List.getD_eq_getElem?_getD, plcs_at (by omega)]
      show ((h.n.toNat : Nat) : Int) + (k : Int) = h.n + (k : Int)
      omega
    rw [hg] at hs ⊢
    split at hs
    · rename_i hc
      rw [if_pos hc]
      show colT (List.replicate k z ++ cols) (((h.n + (k : Int)).toNat : Nat) : Int) = colT cols h.n
      unfold colT
      rw [if_pos (by rw [List.length_append, List.length_replicate]; omega), if_pos hn]
      have e : (List.replicate k z ++ cols)[((((h.n + (k : Int)).toNat : Nat) : Int)).toNat]? = cols[h.n.toNat]? := by
        rw [List.getElem?_append_right (by rw [List.length_replicate]; omega), List.length_replicate]
        congr 1
        omega
      rw [e]
    · cases hs
  · rw [if_neg hn] at hs; cases hs
end
/-- What comes of Bind or Move is as large as what came in, or nothing. -/
theorem whR_cnt {pl : Hd → Option Nat} {x : Ex} {n : Nat} (h : cnt x ≤ n) (h1 : 1 ≤ n) : cnt (whR (whX pl x)) ≤ n := by
  unfold whX
  split
  · rename_i hx
    cases ho : okP pl x with
    | false => rw [putX_no ho]; show cnt (.mk zHd []) ≤ n; rw [cnt_mk, cntL]; omega
    | true => rw [putX_rb x ho]; show cnt (rbX pl x) ≤ n; rw [cnt_rb]; exact h
  · show cnt (.mk zHd []) ≤ n; rw [cnt_mk, cntL]; omega
end Go.Proofs.YtofhaokaldpmaaaGreatDoor
end
section
namespace Go.Proofs.YtofhaokaldpmaaaGreatDoor
open Go.RowKit Go.Shelf
attribute [local go_sem] Oper.semAt_some

theorem EV.box {y : Ex} {u : Value} {W : World} (h : EV y u W) : ∃ A cap, u = XV y.hd A y.kids.length cap ∧ BxE (W.alloc (xbox y.hd A y.kids.length cap)) W.heap.size y := by
  obtain ⟨A, cap, rfl, hl, hx⟩ := h
  exact ⟨A, cap, rfl, A, cap, (MapKept.heap_alloc W _).1, hl, XsAt.next hx (ba W _)⟩
set_option maxRecDepth 100000 in
set_option maxHeartbeats 8000000 in
theorem binds_walk (h : Hd) (l : List Ex) (A : Option Addr) (cap : Nat) (cols : List Co) (Ac : Option Addr) (c : Nat) (w : World) (hX : XsAt w.heap.size w l A) (hcap : l.length ≤ cap) (hCo : CoAt w Ac cols) (hlc : cols.length ≤ c) (hc : c ≤ 9223372036854775807) (hT : Tabs w) (hE : ErrT w) :
    Calls Tryz.prog 4 #[XV h A l.length cap, .slice Ac cols.length c] w fun e w' => e = .returned (.bool true) ∧ Below w.heap.size w w' := by
  have hb0 := ba w (xbox h A l.length cap)
  have HBx := Lib.hid (show BxE (w.alloc (xbox h A l.length cap)) w.heap.size (.mk h l) from ⟨A, cap, (MapKept.heap_alloc w _).1, hcap, XsAt.next hX hb0⟩)
  have HM := Lib.hid ((show Lw w w from ⟨Below.refl _ _, hT, hE⟩).next hb0)
  have HLv := Lib.hid (fun W (h : Lw w W) => lives14_yes W h.T h.E)
  have HCo := Lib.hid (hCo.kept hb0)
  have HLc := Lib.hid hlc
  have HCc := Lib.hid hc
  obtain ⟨q, hq⟩ : ∃ q, decide (60 < cols.length) = q := ⟨_, rfl⟩
  have HLa := Lib.hid (fun W => large14_any Ac cols.length c W hq)
  clear hCo hlc hc hq
  obtain ⟨x, hx⟩ : ∃ x, Ex.mk h l = x := ⟨_, rfl⟩
  rw [hx] at HBx
  clear hX hT hE hb0 hx hcap
  go_enter Tryz.func4, Tryz.ntmps4
  go_upto_region 1 with fail
  generalize w.alloc (.cells #[.int .i64 h.k, .int .i64 h.n, .int .i64 h.vk, .int .i64 h.vn, .string h.vs, .string h.tab, .string h.col, .slice A l.length cap] 35) = W0 at HM HBx HCo ⊢
  go_wp2_with fail
  refine (HLa.out _).mono ?_
  rintro e w1 ⟨rfl, rfl⟩
  cases q
  rotate_left 1
  · go_wp2_with fail
    refine (HLv.out _ HM.out).mono ?_
    rintro e wl1 ⟨rfl, hb⟩
    have HB9 := Lib.hid (bt HM.out.bel hb)
    clear hb
    go_wp2_with fail
    go_ret
    exact ⟨rfl, HB9.out⟩
  obtain ⟨Ai, ci, hbi, hli, hsi⟩ := HBx.out
  have HVi := Lib.hid (show EV x (XV x.hd Ai x.kids.length ci) _ from ⟨Ai, ci, rfl, hli, hsi⟩)
  obtain ⟨⟨x0, x1, x2, x3, x4, x5, x6, x7⟩, _⟩ := cell8 hbi
  clear hbi hli hsi
  have HC := Lib.hid (rv_large HVi.out rfl)
  go_wp2_with fail
  refine HC.out.mono ?_
  rintro e w2 ⟨_, rfl, hb, rfl⟩
  replace HM := Lib.hid (HM.out.next hb)
  replace HBx := Lib.hid (HBx.out.kept hb)
  replace HCo := Lib.hid (HCo.out.kept hb)
  clear hb HVi HC x0 x1 x2 x3 x4 x5 x6 x7
  cases hla : largeB x
  rotate_left 1
  · go_wp2_with fail
    refine (HLv.out _ HM.out).mono ?_
    rintro e wl3 ⟨rfl, hb⟩
    have HB9 := Lib.hid (bt HM.out.bel hb)
    clear hb
    go_wp2_with fail
    go_ret
    exact ⟨rfl, HB9.out⟩
  have HSm := Lib.hid (large_no hla).1
  have HCn := Lib.hid (large_no hla).2
  clear hla
  obtain ⟨qb, hqb⟩ : ∃ q, whX (plB cols) x = q := ⟨_, rfl⟩
  have hcy := whR_cnt (pl := plB cols) HCn.out (by decide)
  rw [hqb] at hcy
  obtain ⟨y, hy⟩ : ∃ y, whR qb = y := ⟨_, rfl⟩
  rw [hy] at hcy
  have HCy := Lib.hid hcy
  have HQb := Lib.hid hqb
  obtain ⟨o, n⟩ := qb
  have HY := Lib.hid hy
  clear hcy hqb hy
  obtain ⟨Ai, ci, hbi, hli, hsi⟩ := HBx.out
  have HVi := Lib.hid (show EV x (XV x.hd Ai x.kids.length ci) _ from ⟨Ai, ci, rfl, hli, hsi⟩)
  obtain ⟨⟨x0, x1, x2, x3, x4, x5, x6, x7⟩, _⟩ := cell8 hbi
  clear hbi hli hsi
  have HC := Lib.hid (ev_bind (c := c) HVi.out HSm.out (by have := HCn.out; omega) HM.out.T HM.out.E HCo.out HLc.out HCc.out HQb.out)
  go_wp2_with fail
  refine HC.out.mono ?_
  rintro e w4 ⟨u, rfl, hb, hEV⟩
  rw [HY.out] at hEV
  obtain ⟨Ay, cy, rfl, hbx⟩ := hEV.box
  have hb2 := bt hb (ba w4 (xbox y.hd Ay y.kids.length cy))
  replace HM := Lib.hid (HM.out.next hb2)
  replace HBx := Lib.hid (HBx.out.kept hb2)
  replace HCo := Lib.hid (HCo.out.kept hb2)
  have HY1 := Lib.hid hbx
  clear hb hb2 hEV hbx HVi HC x0 x1 x2 x3 x4 x5 x6 x7
  go_upto_region 4 with fail
  generalize w4.alloc (.cells #[.int .i64 y.hd.k, .int .i64 y.hd.n, .int .i64 y.hd.vk, .int .i64 y.hd.vn, .string y.hd.vs, .string y.hd.tab, .string y.hd.col, .slice Ay y.kids.length cy] 35) = W5 at HM HBx HCo HY1 ⊢
  generalize w4.heap.size = pHY1 at HY1 ⊢
  obtain ⟨Ai, ci, hbi, hli, hsi⟩ := HBx.out
  have HVi := Lib.hid (show EV x (XV x.hd Ai x.kids.length ci) _ from ⟨Ai, ci, rfl, hli, hsi⟩)
  obtain ⟨⟨x0, x1, x2, x3, x4, x5, x6, x7⟩, _⟩ := cell8 hbi
  clear hbi hli hsi
  have HC := Lib.hid (rv_bind (c := c) HVi.out HSm.out (by have := HCn.out; omega) HCo.out (Nat.le_trans HLc.out HCc.out) HQb.out)
  go_wp2_with fail
  refine HC.out.mono ?_
  rintro e w6 ⟨u, rfl, hb, hEV⟩
  rw [HY.out] at hEV
  obtain ⟨Ay, cy, rfl, hbx⟩ := hEV.box
  have hb2 := bt hb (ba w6 (xbox y.hd Ay y.kids.length cy))
  replace HM := Lib.hid (HM.out.next hb2)
  replace HBx := Lib.hid (HBx.out.kept hb2)
  replace HCo := Lib.hid (HCo.out.kept hb2)
  replace HY1 := Lib.hid (HY1.out.kept hb2)
  have HY2 := Lib.hid hbx
  clear hb hb2 hEV hbx HVi HC x0 x1 x2 x3 x4 x5 x6 x7
  go_upto_region 5 with fail
  generalize w6.alloc (.cells #[.int .i64 y.hd.k, .int .i64 y.hd.n, .int .i64 y.hd.vk, .int .i64 y.hd.vn, .string y.hd.vs, .string y.hd.tab, .string y.hd.col, .slice Ay y.kids.length cy] 35) = W7 at HM HBx HCo HY1 HY2 ⊢
  generalize w6.heap.size = pHY2 at HY2 ⊢
  obtain ⟨⟨t, tn⟩, hqt⟩ : ∃ q, typA cols x = q := ⟨_, rfl⟩
  have HQt := Lib.hid hqt
  clear hqt
  obtain ⟨Ai, ci, hbi, hli, hsi⟩ := HBx.out
  have HVi := Lib.hid (show EV x (XV x.hd Ai x.kids.length ci) _ from ⟨Ai, ci, rfl, hli, hsi⟩)
  obtain ⟨⟨x0, x1, x2, x3, x4, x5, x6, x7⟩, _⟩ := cell8 hbi
  clear hbi hli hsi
  have HC := Lib.hid (ev_type (c := c) HVi.out HSm.out (by have := HCn.out; omega) HM.out.T HM.out.E HCo.out HQt.out)
  go_wp2_with fail
  refine HC.out.mono ?_
  rintro e w8 ⟨_, rfl, hb, rfl⟩
  replace HM := Lib.hid (HM.out.next hb)
  replace HBx := Lib.hid (HBx.out.kept hb)
  replace HCo := Lib.hid (HCo.out.kept hb)
  replace HY1 := Lib.hid (HY1.out.kept hb)
  replace HY2 := Lib.hid (HY2.out.kept hb)
  clear hb HVi HC x0 x1 x2 x3 x4 x5 x6 x7
  obtain ⟨Ai, ci, hbi, hli, hsi⟩ := HBx.out
  have HVi := Lib.hid (show EV x (XV x.hd Ai x.kids.length ci) _ from ⟨Ai, ci, rfl, hli, hsi⟩)
  obtain ⟨⟨x0, x1, x2, x3, x4, x5, x6, x7⟩, _⟩ := cell8 hbi
  clear hbi hli hsi
  have HC := Lib.hid (rv_type (c := c) HVi.out HSm.out (by have := HCn.out; omega) HCo.out HQt.out)
  go_wp2_with fail
  refine HC.out.mono ?_
  rintro e w9 ⟨_, rfl, hb, rfl⟩
  replace HM := Lib.hid (HM.out.next hb)
  replace HBx := Lib.hid (HBx.out.kept hb)
  replace HCo := Lib.hid (HCo.out.kept hb)
  replace HY1 := Lib.hid (HY1.out.kept hb)
  replace HY2 := Lib.hid (HY2.out.kept hb)
  clear hb HVi HC x0 x1 x2 x3 x4 x5 x6 x7
  go_wp2_with fail
  refine (HLv.out _ HM.out).mono ?_
  rintro e wl10 ⟨rfl, hb⟩
  replace HM := Lib.hid (HM.out.next hb)
  replace HBx := Lib.hid (HBx.out.kept hb)
  replace HCo := Lib.hid (HCo.out.kept hb)
  replace HY1 := Lib.hid (HY1.out.kept hb)
  replace HY2 := Lib.hid (HY2.out.kept hb)
  clear hb
  obtain ⟨Ai, ci, hbi, hli, hsi⟩ := HY1.out
  have HVi := Lib.hid (show EV y (XV y.hd Ai y.kids.length ci) _ from ⟨Ai, ci, rfl, hli, hsi⟩)
  obtain ⟨⟨x0, x1, x2, x3, x4, x5, x6, x7⟩, _⟩ := cell8 hbi
  clear hbi hli hsi
  obtain ⟨Aj, cj, hbj, hlj, hsj⟩ := HY2.out
  have HVj := Lib.hid (show EV y (XV y.hd Aj y.kids.length cj) _ from ⟨Aj, cj, rfl, hlj, hsj⟩)
  obtain ⟨⟨y0, y1, y2, y3, y4, y5, y6, y7⟩, _⟩ := cell8 hbj
  clear hbj hlj hsj
  have HC := Lib.hid (rv_same HVi.out HVj.out (by have := HCy.out; omega) (by have := HCy.out; omega) (same_self y))
  go_wp2_with fail
  refine HC.out.mono ?_
  rintro e w11 ⟨_, rfl, hb, rfl⟩
  have HB9 := Lib.hid (bt HM.out.bel hb)
  clear hb
  go_wp2_with fail
  go_ret
  exact ⟨rfl, HB9.out⟩
end Go.Proofs.YtofhaokaldpmaaaGreatDoor
end
section
namespace Go.Proofs.YtofhaokaldpmaaaGreatDoor
open Go.RowKit Go.Shelf
attribute [local go_sem] Oper.semAt_some

theorem wh_cases {pl : Hd → Option Nat} {x : Ex} {o : Option Ex} {n : Int} (h : whX pl x = (o, n)) : (o = none ∧ (n = 100 ∨ n = 140)) ∨ (o = some (rbX pl x) ∧ n = 0 ∧ okX x = true ∧ okP pl x = true) := by
  cases hx : okX x with
  | false =>
    rw [whX_bad hx] at h
    simp only [Prod.mk.injEq] at h
    exact .inl ⟨h.1.symm, .inl h.2.symm⟩
  | true =>
    cases ho : okP pl x with
    | false =>
      rw [whX_no hx ho] at h
      simp only [Prod.mk.injEq] at h
      exact .inl ⟨h.1.symm, .inr h.2.symm⟩
    | true =>
      rw [whX_yes hx ho] at h
      simp only [Prod.mk.injEq] at h
      exact .inr ⟨h.1.symm, h.2.symm, rfl, rfl⟩
set_option maxRecDepth 100000 in
set_option maxHeartbeats 8000000 in
theorem twice_walk (h : Hd) (l : List Ex) (A : Option Addr) (cap : Nat) (cols : List Co) (Ac : Option Addr) (c : Nat) (w : World) (hX : XsAt w.heap.size w l A) (hcap : l.length ≤ cap) (hCo : CoAt w Ac cols) (hlc : cols.length ≤ c) (hc : c ≤ 9223372036854775807) (hT : Tabs w) (hE : ErrT w) :
    Calls Tryz.prog 5 #[XV h A l.length cap, .slice Ac cols.length c] w fun e w' => e = .returned (.bool true) ∧ Below w.heap.size w w' := by
  have hb0 := ba w (xbox h A l.length cap)
  have HBx := Lib.hid (show BxE (w.alloc (xbox h A l.length cap)) w.heap.size (.mk h l) from ⟨A, cap, (MapKept.heap_alloc w _).1, hcap, XsAt.next hX hb0⟩)
  have HM := Lib.hid ((show Lw w w from ⟨Below.refl _ _, hT, hE⟩).next hb0)
  have HLv := Lib.hid (fun W (h : Lw w W) => lives14_yes W h.T h.E)
  have HCo := Lib.hid (hCo.kept hb0)
  have HLc := Lib.hid hlc
  have HCc := Lib.hid hc
  obtain ⟨q, hq⟩ : ∃ q, decide (60 < cols.length) = q := ⟨_, rfl⟩
  have HLa := Lib.hid (fun W => large14_any Ac cols.length c W hq)
  clear hCo hlc hc hq
  obtain ⟨x, hx⟩ : ∃ x, Ex.mk h l = x := ⟨_, rfl⟩
  rw [hx] at HBx
  clear hX hT hE hb0 hx hcap
  go_enter Tryz.func5, Tryz.ntmps5
  go_upto_region 1 with fail
  generalize w.alloc (.cells #[.int .i64 h.k, .int .i64 h.n, .int .i64 h.vk, .int .i64 h.vn, .string h.vs, .string h.tab, .string h.col, .slice A l.length cap] 35) = W0 at HM HBx HCo ⊢
  go_wp2_with fail
  refine (HLa.out _).mono ?_
  rintro e w1 ⟨rfl, rfl⟩
  cases q
  rotate_left 1
  · go_wp2_with fail
    refine (HLv.out _ HM.out).mono ?_
    rintro e wl1 ⟨rfl, hb⟩
    have HB9 := Lib.hid (bt HM.out.bel hb)
    clear hb
    go_wp2_with fail
    go_ret
    exact ⟨rfl, HB9.out⟩
  obtain ⟨Ai, ci, hbi, hli, hsi⟩ := HBx.out
  have HVi := Lib.hid (show EV x (XV x.hd Ai x.kids.length ci) _ from ⟨Ai, ci, rfl, hli, hsi⟩)
  obtain ⟨⟨x0, x1, x2, x3, x4, x5, x6, x7⟩, _⟩ := cell8 hbi
  clear hbi hli hsi
  have HC := Lib.hid (rv_large HVi.out rfl)
  go_wp2_with fail
  refine HC.out.mono ?_
  rintro e w2 ⟨_, rfl, hb, rfl⟩
  replace HM := Lib.hid (HM.out.next hb)
  replace HBx := Lib.hid (HBx.out.kept hb)
  replace HCo := Lib.hid (HCo.out.kept hb)
  clear hb HVi HC x0 x1 x2 x3 x4 x5 x6 x7
  cases hla : largeB x
  rotate_left 1
  · go_wp2_with fail
    refine (HLv.out _ HM.out).mono ?_
    rintro e wl3 ⟨rfl, hb⟩
    have HB9 := Lib.hid (bt HM.out.bel hb)
    clear hb
    go_wp2_with fail
    go_ret
    exact ⟨rfl, HB9.out⟩
  have HSm := Lib.hid (large_no hla).1
  have HCn := Lib.hid (large_no hla).2
  clear hla
  obtain ⟨qb, hqb⟩ : ∃ q, whX (plB cols) x = q := ⟨_, rfl⟩
  have hcy := whR_cnt (pl := plB cols) HCn.out (by decide)
  rw [hqb] at hcy
  obtain ⟨y, hy⟩ : ∃ y, whR qb = y := ⟨_, rfl⟩
  rw [hy] at hcy
  have HCy := Lib.hid hcy
  have HQb := Lib.hid hqb
  obtain ⟨o, n⟩ := qb
  have HY := Lib.hid hy
  clear hcy hqb hy
  obtain ⟨Ai, ci, hbi, hli, hsi⟩ := HBx.out
  have HVi := Lib.hid (show EV x (XV x.hd Ai x.kids.length ci) _ from ⟨Ai, ci, rfl, hli, hsi⟩)
  obtain ⟨⟨x0, x1, x2, x3, x4, x5, x6, x7⟩, _⟩ := cell8 hbi
  clear hbi hli hsi
  have HC := Lib.hid (ev_bind (c := c) HVi.out HSm.out (by have := HCn.out; omega) HM.out.T HM.out.E HCo.out HLc.out HCc.out HQb.out)
  go_wp2_with fail
  refine HC.out.mono ?_
  rintro e w4 ⟨u, rfl, hb, hEV⟩
  rw [HY.out] at hEV
  obtain ⟨Ay, cy, rfl, hbx⟩ := hEV.box
  have hb2 := bt hb (ba w4 (xbox y.hd Ay y.kids.length cy))
  replace HM := Lib.hid (HM.out.next hb2)
  replace HBx := Lib.hid (HBx.out.kept hb2)
  replace HCo := Lib.hid (HCo.out.kept hb2)
  have HY1 := Lib.hid hbx
  clear hb hb2 hEV hbx HVi HC x0 x1 x2 x3 x4 x5 x6 x7
  go_upto_region 4 with fail
  generalize w4.alloc (.cells #[.int .i64 y.hd.k, .int .i64 y.hd.n, .int .i64 y.hd.vk, .int .i64 y.hd.vn, .string y.hd.vs, .string y.hd.tab, .string y.hd.col, .slice Ay y.kids.length cy] 35) = W5 at HM HBx HCo HY1 ⊢
  generalize w4.heap.size = pHY1 at HY1 ⊢
  go_wp2_with fail
  refine (HLv.out _ HM.out).mono ?_
  rintro e wl6 ⟨rfl, hb⟩
  replace HM := Lib.hid (HM.out.next hb)
  replace HBx := Lib.hid (HBx.out.kept hb)
  replace HCo := Lib.hid (HCo.out.kept hb)
  replace HY1 := Lib.hid (HY1.out.kept hb)
  clear hb
  rcases wh_cases HQb.out with ⟨_, rfl | rfl⟩ | ⟨rfl, rfl, hxo, hpo⟩
  · go_wp2_with fail
    refine (HLv.out _ HM.out).mono ?_
    rintro e wl7 ⟨rfl, hb⟩
    have HB9 := Lib.hid (bt HM.out.bel hb)
    clear hb
    go_wp2_with fail
    go_ret
    exact ⟨rfl, HB9.out⟩
  · go_wp2_with fail
    refine (HLv.out _ HM.out).mono ?_
    rintro e wl8 ⟨rfl, hb⟩
    have HB9 := Lib.hid (bt HM.out.bel hb)
    clear hb
    go_wp2_with fail
    go_ret
    exact ⟨rfl, HB9.out⟩
  have HWt := Lib.hid (show whX (plB cols) y = (some y, 0) by have e : rbX (plB cols) x = y := HY.out; rw [← e]; exact wh_twice hxo hpo)
  have HSy := Lib.hid (show AllSm y by have e : rbX (plB cols) x = y := HY.out; rw [← e]; exact allSm_rb x HSm.out)
  have htb : (typA cols y).2 = 0 ∨ (typA cols y).2 = 141 := by have e : rbX (plB cols) x = y := HY.out; rw [← e]; exact typ_bound hxo hpo
  obtain ⟨⟨t, tn⟩, hqt⟩ : ∃ q, typA cols y = q := ⟨_, rfl⟩
  rw [hqt] at htb
  have HQt := Lib.hid hqt
  have HTb := Lib.hid htb
  clear hqt htb hxo hpo HQb HY HSm HCn HBx
  obtain ⟨Ai, ci, hbi, hli, hsi⟩ := HY1.out
  have HVi := Lib.hid (show EV y (XV y.hd Ai y.kids.length ci) _ from ⟨Ai, ci, rfl, hli, hsi⟩)
  obtain ⟨⟨x0, x1, x2, x3, x4, x5, x6, x7⟩, _⟩ := cell8 hbi
  clear hbi hli hsi
  have HC := Lib.hid (ev_bind (c := c) HVi.out HSy.out (by have := HCy.out; omega) HM.out.T HM.out.E HCo.out HLc.out HCc.out HWt.out)
  go_wp2_with fail
  refine HC.out.mono ?_
  rintro e w9 ⟨u, rfl, hb, hEV⟩
  rw [show whR (some y, (0 : Int)) = y from rfl] at hEV
  obtain ⟨Ay, cy, rfl, hbx⟩ := hEV.box
  have hb2 := bt hb (ba w9 (xbox y.hd Ay y.kids.length cy))
  replace HM := Lib.hid (HM.out.next hb2)
  replace HCo := Lib.hid (HCo.out.kept hb2)
  replace HY1 := Lib.hid (HY1.out.kept hb2)
  have HY2 := Lib.hid hbx
  clear hb hb2 hEV hbx HVi HC x0 x1 x2 x3 x4 x5 x6 x7
  go_upto_region 7 with fail
  generalize w9.alloc (.cells #[.int .i64 y.hd.k, .int .i64 y.hd.n, .int .i64 y.hd.vk, .int .i64 y.hd.vn, .string y.hd.vs, .string y.hd.tab, .string y.hd.col, .slice Ay y.kids.length cy] 35) = W10 at HM HCo HY1 HY2 ⊢
  generalize w9.heap.size = pHY2 at HY2 ⊢
  obtain ⟨Ai, ci, hbi, hli, hsi⟩ := HY1.out
  have HVi := Lib.hid (show EV y (XV y.hd Ai y.kids.length ci) _ from ⟨Ai, ci, rfl, hli, hsi⟩)
  obtain ⟨⟨x0, x1, x2, x3, x4, x5, x6, x7⟩, _⟩ := cell8 hbi
  clear hbi hli hsi
  have HC := Lib.hid (ev_type (c := c) HVi.out HSy.out (by have := HCy.out; omega) HM.out.T HM.out.E HCo.out HQt.out)
  go_wp2_with fail
  refine HC.out.mono ?_
  rintro e w11 ⟨_, rfl, hb, rfl⟩
  replace HM := Lib.hid (HM.out.next hb)
  replace HCo := Lib.hid (HCo.out.kept hb)
  replace HY1 := Lib.hid (HY1.out.kept hb)
  replace HY2 := Lib.hid (HY2.out.kept hb)
  clear hb HVi HC x0 x1 x2 x3 x4 x5 x6 x7
  obtain ⟨Ai, ci, hbi, hli, hsi⟩ := HY1.out
  have HVi := Lib.hid (show EV y (XV y.hd Ai y.kids.length ci) _ from ⟨Ai, ci, rfl, hli, hsi⟩)
  obtain ⟨⟨x0, x1, x2, x3, x4, x5, x6, x7⟩, _⟩ := cell8 hbi
  clear hbi hli hsi
  obtain ⟨Aj, cj, hbj, hlj, hsj⟩ := HY2.out
  have HVj := Lib.hid (show EV y (XV y.hd Aj y.kids.length cj) _ from ⟨Aj, cj, rfl, hlj, hsj⟩)
  obtain ⟨⟨y0, y1, y2, y3, y4, y5, y6, y7⟩, _⟩ := cell8 hbj
  clear hbj hlj hsj
  have HC := Lib.hid (rv_same HVi.out HVj.out (by have := HCy.out; omega) (by have := HCy.out; omega) (same_self y))
  go_wp2_with fail
  refine HC.out.mono ?_
  rintro e w12 ⟨_, rfl, hb, rfl⟩
  have HB9 := Lib.hid (bt HM.out.bel hb)
  clear hb
  rcases HTb.out with rfl | rfl
  · go_wp2_with fail
    go_ret
    exact ⟨rfl, HB9.out⟩
  · go_wp2_with fail
    go_ret
    exact ⟨rfl, HB9.out⟩
end Go.Proofs.YtofhaokaldpmaaaGreatDoor
end
