/-
  Contracts of hasAgg, check.
Contracts of Eval, allHold, Holds, Errs.
Contract of Holds.
A drawn region within a round of a range over a function, walked by the laws of the plain walk.
-/
import Derived.Test.YtpokpiphnggfpaaGreatDoorZ10
import Derived.Deep.RegionHeld3
import Derived.OrdersIn
section
namespace Go.Proofs.YtpokpiphnggfpaaGreatDoor
open Go.RowKit Go.Shelf
attribute [local go_sem] Oper.semAt_some

theorem hasAs_take : ∀ {l : List Ex} {k : Nat} {x : Ex}, l[k]? = some x → hasAs (l.take (k + 1)) = (hasAs (l.take k) || hasA x)
  | [], k, x, h => by simp at h
  | y :: r, 0, x, h => by
    obtain rfl : y = x := by simpa using h
    simp [hasAs]
  | y :: r, k + 1, x, h => by
    rw [List.take_succ_cons, List.take_succ_cons, hasAs, hasAs, hasAs_take (l := r) (k := k) (by simpa using h), Bool.or_assoc]
theorem hasAs_yes : ∀ {l : List Ex} {k : Nat} {x : Ex}, l[k]? = some x → hasA x = true → hasAs l = true
  | [], k, x, h, _ => by simp at h
  | y :: r, 0, x, h, hx => by
    obtain rfl : y = x := by simpa using h
    rw [hasAs, hx]; rfl
  | y :: r, k + 1, x, h, hx => by
    rw [hasAs, hasAs_yes (l := r) (k := k) (by simpa using h) hx, Bool.or_true]
def IdxE (b : Bool) (w : World) (e : Ending) (w' : World) : Prop := ∃ i : Int, -1 ≤ i ∧ decide (0 ≤ i) = b ∧ e = .returned (.int .i64 i) ∧ Below w.heap.size w w'
def AggAt (w : World) (x : Ex) : Prop :=
  ∀ (w1 : World) (A : Option Addr) (cap : Nat), Below w.heap.size w w1 → XsAt w1.heap.size w1 x.kids A → x.kids.length ≤ cap →
    Calls Tryz.prog 42 #[XV x.hd A x.kids.length cap] w1 fun e w' => e = .returned (.bool (hasA x)) ∧ Below w1.heap.size w1 w'
set_option maxHeartbeats 4000000 in
theorem indexAgg_of (l : List Ex) (A : Option Addr) (cap : Nat) (w : World) (hX : XsAt w.heap.size w l A) (hl : l.length ≤ 1000000) (ih : ∀ (i : Nat) x, l[i]? = some x → AggAt w x) :
    Calls Tryz.prog 74 #[.slice A l.length cap, .func (.func 42) #[] #[]] w (IdxE (hasAs l) w) := by
  have eg := enters_of Tryz.func42 (by kernel_rfl) rfl
  unfold Enters at eg
  have HX := Lib.hid hX
  have HI := Lib.hid ih
  clear hX ih
  go_enter Tryz.func74, Tryz.ntmps74
  go_wp2_with fail
  go_loopw [8] (fun i wr => ∃ j : Nat, j ≤ l.length ∧ i = .int .i64 j ∧ Hid (Below w.heap.size w wr) ∧ Hid (hasAs (l.take j) = false)) (fun i _ => l.length - (intOf i).toNat)
  case atStart => exact ⟨0, Nat.zero_le _, rfl, Lib.hid (Below.refl _ _), Lib.hid (by simp [hasAs])⟩
  case round =>
    obtain ⟨j, hj, rfl, HB, HN⟩ := hrel
    by_cases hlt : j < l.length
    · obtain ⟨x, hx⟩ : ∃ x, l[j]? = some x := ⟨_, List.getElem?_eq_getElem hlt⟩
      obtain ⟨hh, ll⟩ := x
      obtain ⟨g, o, A1, c1, rfl, hg, hXc, hle, hx2⟩ := HX.out.at hx
      obtain ⟨a0, a1, a2, a3, a4, a5, a6, a7⟩ := hXc.of (HB.out.block g hg)
      have HC := Lib.hid (HI.out j _ hx wr A1 c1 HB.out (XsAt.next hx2 HB.out) hle)
      have HT := Lib.hid (hasAs_take hx)
      have HY := Lib.hid (hasAs_yes hx)
      obtain ⟨m, hm⟩ : ∃ m, hasA (.mk hh ll) = m := ⟨_, rfl⟩
      rw [hm] at HC HT HY
      clear hXc hx hx2 hm
      cases m
      · have HE := Lib.hid (show hasAs (l.take (j + 1)) = false by rw [HT.out, HN.out]; rfl)
        go_wp2_with fail
        refine HC.out.mono ?_
        rintro e w1 ⟨rfl, hb⟩
        have HB2 := Lib.hid (bt HB.out hb)
        clear hb
        go_wp2_with fail
        go_roundw
        case rel => exact ⟨j + 1, by omega, by go_num, HB2, HE⟩
        case measure => simp [intOf]; omega
      · have HE := Lib.hid (HY.out rfl)
        go_wp2_with fail
        refine HC.out.mono ?_
        rintro e w1 ⟨rfl, hb⟩
        have HB2 := Lib.hid (bt HB.out hb)
        clear hb
        go_wp2_with fail
        go_ret
        exact ⟨j, by omega, by rw [HE.out]; simp, rfl, HB2.out⟩
    · have HE := Lib.hid (show hasAs l = false by rw [← HN.out, List.take_of_length_le (by omega)])
      go_wp2_with fail
      go_ret
      exact ⟨-1, by omega, by rw [HE.out]; rfl, rfl, HB.out⟩
set_option maxHeartbeats 4000000 in
theorem hasAgg_n : ∀ (N : Nat) (x : Ex), cnt x ≤ N → cnt x ≤ 1000000 → ∀ w : World, AggAt w x := by
  intro N
  induction N with
  | zero => intro x hc; have := cnt_pos x; omega
  | succ N ih =>
    intro x hc hM w w1 A cap hb0 hX hcap
    clear hb0
    obtain ⟨h, l⟩ := x
    simp only [Ex.kids, Ex.hd] at hX hcap ⊢
    have hba := ba w1 (xbox h A l.length cap)
    have hx := (MapKept.heap_alloc w1 (xbox h A l.length cap)).1
    rw [cnt_mk] at hc hM
    have hlen := cntL_len l
    have hI := indexAgg_of l A cap (w1.alloc (xbox h A l.length cap)) (XsAt.next hX hba) (by omega) (fun i x hx => by
      have := cntL_split hx
      exact ih x (by omega) (by omega) _)
    have HI := Lib.hid hI
    have HBa := Lib.hid hba
    have HD := Lib.hid (show hasA (.mk h l) = (h.k == 4 || hasAs l) by rw [hasA])
    rw [HD.out]
    clear hX hba hI ih hc
    by_cases h4 : h.k = 4
    · have g4 : (h.k == 4) = true := by simpa using h4
      rw [g4]
      clear h4 hx
      go_enter Tryz.func42, Tryz.ntmps42
      go_wp2_with fail
      go_ret
      exact ⟨rfl, HBa.out⟩
    · have g4 : (h.k == 4) = false := by simpa using h4
      rw [g4]
      obtain ⟨q, hq⟩ : ∃ q, hasAs l = q := ⟨_, rfl⟩
      rw [hq] at HI ⊢
      have HC : Hid (Calls Tryz.prog 57 #[.slice A l.length cap, .func (.func 42) #[] #[]] (w1.alloc (xbox h A l.length cap)) fun e w' => e = .returned (.bool q) ∧ Below (w1.alloc (xbox h A l.length cap)).heap.size (w1.alloc (xbox h A l.length cap)) w') := by
        clear h4 hx
        generalize w1.alloc (xbox h A l.length cap) = W at HI ⊢
        refine Lib.hid ?_
        go_enter Tryz.func57, Tryz.ntmps57
        go_wp2_with fail
        refine HI.out.mono ?_
        rintro e w1 ⟨i, hi0, hi, rfl, hb1⟩
        go_wp2_with fail
        go_ret
        exact ⟨rfl, hb1⟩
      clear h4 hx HD hq
      go_enter Tryz.func42, Tryz.ntmps42
      go_wp2_with fail
      refine HC.out.mono ?_
      rintro e w2 ⟨rfl, hb⟩
      have HB2 := Lib.hid (bt HBa.out hb)
      clear hb
      go_wp2_with fail
      go_ret
      exact ⟨by simp, HB2.out⟩
set_option maxHeartbeats 4000000 in
theorem ccheck_any (h : Hd) (l : List Ex) (A : Option Addr) (cap : Nat) (w : World) (hX : XsAt w.heap.size w l A) (hcap : l.length ≤ cap) (hsm : AllSm (.mk h l)) (hc : cnt (.mk h l) ≤ 999999) (hT : Tabs w) :
    Calls Tryz.prog 20 #[XV h A l.length cap] w fun e w' => e = .returned (.int .i64 (mayI (.mk h l))) ∧ Below w.heap.size w w' := by
  have hba := ba w (xbox h A l.length cap)
  have HX := Lib.hid ((MapKept.heap_alloc w (xbox h A l.length cap)).1)
  have HC := Lib.hid (xcheck_any h l A cap (w.alloc (xbox h A l.length cap)) (hX.next hba) hcap hsm hc (hT.kept hba))
  have HA := Lib.hid (fun w1 (hb : Below w.heap.size w w1) => hasAgg_n _ (.mk h l) (Nat.le_refl _) (by omega) w w1 A cap hb (XsAt.next hX hb) hcap)
  have HBa := Lib.hid hba
  clear hX hT hsm hba
  obtain ⟨k, hk⟩ : ∃ k, okX (.mk h l) = k := ⟨_, rfl⟩
  obtain ⟨q, hq⟩ : ∃ q, hasA (.mk h l) = q := ⟨_, rfl⟩
  have HM := Lib.hid (show mayI (.mk h l) = if k = true then (if q = true then 1 else 0) else 100 by rw [mayI, hk, hq])
  have HK := Lib.hid (show chkI (.mk h l) = if k = true then 0 else 100 by rw [chkI, meas_some, hk])
  rw [HM.out]
  rw [HK.out] at HC
  rw [hq] at HA
  clear hk hq HM HK
  obtain ⟨⟨x0, x1, x2, x3, x4, x5, x6, x7⟩, _⟩ := cell8 HX.out
  cases k
  · go_enter Tryz.func20, Tryz.ntmps20
    go_wp2_with fail
    refine HC.out.mono ?_
    rintro e w1 ⟨rfl, hb⟩
    have HB2 := Lib.hid (bt HBa.out hb)
    clear hb
    go_wp2_with fail
    go_ret
    exact ⟨rfl, HB2.out⟩
  · cases q
    all_goals
      go_enter Tryz.func20, Tryz.ntmps20
      go_wp2_with fail
      refine HC.out.mono ?_
      rintro e w1 ⟨rfl, hb⟩
      have HB2 := Lib.hid (bt HBa.out hb)
      obtain ⟨⟨y0, y1, y2, y3, y4, y5, y6, y7⟩, _⟩ := cell8 ((hb.block _ (Array.getElem?_eq_some_iff.1 HX.out).1).trans HX.out)
      clear hb x0 x1 x2 x3 x4 x5 x6 x7
      go_wp2_with fail
      refine (HA.out _ HB2.out).mono ?_
      rintro e w2 ⟨rfl, hb⟩
      have HB3 := Lib.hid (bt HB2.out hb)
      clear hb
      go_wp2_with fail
      go_ret
      exact ⟨rfl, HB3.out⟩
end Go.Proofs.YtpokpiphnggfpaaGreatDoor
end
section
namespace Go.Proofs.YtpokpiphnggfpaaGreatDoor
open Go.RowKit Go.Shelf
attribute [local go_sem] Oper.semAt_some

/-- What Eval answers. -/
def ev2 (r : List Va) (x : Ex) : Value := if mayI x = 0 then rk2 (comX r x) else .tuple #[VV 0 0 ⟨#[]⟩, .int .i64 (mayI x)]
theorem may_zero {x : Ex} (h : mayI x = 0) : okX x = true ∧ hasA x = false := by
  unfold mayI at h
  cases ho : okX x
  · rw [ho] at h; simp at h
  · rw [ho] at h
    cases ha : hasA x
    · exact ⟨rfl, rfl⟩
    · rw [ha] at h; simp at h
set_option maxHeartbeats 4000000 in
theorem eval_any (r : List Va) (Ar : Option Addr) (rc : Nat) (hrl : r.length ≤ 9223372036854775807) (hfine : Fine r) (h : Hd) (l : List Ex) (A : Option Addr) (cap : Nat) (w : World) (hX : XsAt w.heap.size w l A) (hcap : l.length ≤ cap) (hsm : AllSm (.mk h l)) (hc : cnt (.mk h l) ≤ 999999)
    (hR : RowAt w Ar r) (hV : TabV w) (hT : Tabs w) :
    Calls Tryz.prog 12 #[XV h A l.length cap, .slice Ar r.length rc] w fun e w' => e = .returned (ev2 r (.mk h l)) ∧ Below w.heap.size w w' := by
  have HM := Lib.hid (Cm.new w h A l.length cap Ar r hV hR)
  have HT := Lib.hid (fun w1 (hb : Below w.heap.size w w1) => hT.kept hb)
  have HXs := Lib.hid (fun w1 (hb : Below w.heap.size w w1) => XsAt.next hX hb)
  have HCk := Lib.hid (fun w1 (hb : Below w.heap.size w w1) => ccheck_any h l A cap w1 (XsAt.next hX hb) hcap hsm hc (hT.kept hb))
  clear hX hR hV hT
  by_cases hm : mayI (.mk h l) = 0
  · obtain ⟨ho, ha⟩ := may_zero hm
    have HC := Lib.hid (fun w1 hx hr hv => comes_n r Ar rc hrl hfine _ h l (Nat.le_refl _) (ok_fit ho).1 ha w1 A cap hx hcap hr hv)
    have HE := Lib.hid (show ev2 r (.mk h l) = rk2 (comX r (.mk h l)) by rw [ev2, if_pos hm])
    rw [HE.out]
    obtain ⟨K, N, S2, E, hE⟩ := rk2_form (comX r (.mk h l))
    rw [hE] at HC ⊢
    rw [hm] at HCk
    clear hm ho ha hE HE
    go_enter Tryz.func12, Tryz.ntmps12
    go_upto_region 1 with fail
    generalize (w.alloc (.cells #[.int .i64 h.k, .int .i64 h.n, .int .i64 h.vk, .int .i64 h.vn, .string h.vs, .string h.tab, .string h.col, .slice A l.length cap] 30)).alloc (.cells #[.int .i64 0, .int .i64 0, .string ⟨#[]⟩] 28) = W at HM ⊢
    obtain ⟨⟨x0, x1, x2, x3, x4, x5, x6, x7⟩, _⟩ := cell8 HM.out.x
    go_wp2_with fail
    refine (HCk.out _ HM.out.bel).mono ?_
    rintro e W1 ⟨rfl, hb⟩
    have HM := Lib.hid (HM.out.next hb)
    clear hb x0 x1 x2 x3 x4 x5 x6 x7
    obtain ⟨⟨x0, x1, x2, x3, x4, x5, x6, x7⟩, _⟩ := cell8 HM.out.x
    go_wp2_with fail
    refine (HC.out _ (HXs.out _ HM.out.bel) HM.out.row HM.out.tab).mono ?_
    rintro e W2 ⟨rfl, hb⟩
    have HM := Lib.hid (HM.out.next hb)
    clear hb x0 x1 x2 x3 x4 x5 x6 x7
    obtain ⟨r0, r1, r2, f0, f1, f2⟩ := HM.out.b
    go_wp2_with fail
    exact bodyPost_ret (v := .tuple #[VV K N S2, .int .i64 E]) (by simp [results, Tryz.results12, go_sem, r0, r1, r2]) rfl ⟨rfl, below_set3 HM.out.bel (by omega)⟩
  · have HE := Lib.hid (show ev2 r (.mk h l) = .tuple #[VV 0 0 ⟨#[]⟩, .int .i64 (mayI (.mk h l))] by rw [ev2, if_neg hm])
    rw [HE.out]
    generalize mayI (.mk h l) = m at *
    have gm : (m != 0) = true := by simpa using hm
    clear hm HE
    go_enter Tryz.func12, Tryz.ntmps12
    go_upto_region 1 with fail
    generalize (w.alloc (.cells #[.int .i64 h.k, .int .i64 h.n, .int .i64 h.vk, .int .i64 h.vn, .string h.vs, .string h.tab, .string h.col, .slice A l.length cap] 30)).alloc (.cells #[.int .i64 0, .int .i64 0, .string ⟨#[]⟩] 28) = W at HM ⊢
    obtain ⟨⟨x0, x1, x2, x3, x4, x5, x6, x7⟩, _⟩ := cell8 HM.out.x
    go_wp2_with fail
    refine (HCk.out _ HM.out.bel).mono ?_
    rintro e W1 ⟨rfl, hb⟩
    have HM := Lib.hid (HM.out.next hb)
    clear hb x0 x1 x2 x3 x4 x5 x6 x7
    obtain ⟨r0, r1, r2, f0, f1, f2⟩ := HM.out.b
    go_wp2_with fail
    exact bodyPost_ret (v := .tuple #[VV 0 0 ⟨#[]⟩, .int .i64 m]) (by simp [results, Tryz.results12, go_sem, r0, r1, r2]) rfl ⟨rfl, below_set3 HM.out.bel (by omega)⟩
theorem errs_any (h : Hd) (l : List Ex) (A : Option Addr) (cap : Nat) (w : World) (hX : XsAt w.heap.size w l A) (hcap : l.length ≤ cap) (hsm : AllSm (.mk h l)) (hc : cnt (.mk h l) ≤ 999999) (hT : Tabs w) :
    Calls Tryz.prog 18 #[XV h A l.length cap] w fun e w' => e = .returned (.bool (!safeB (.mk h l))) ∧ Below w.heap.size w w' := by
  have hba := ba w (xbox h A l.length cap)
  have HC := Lib.hid (safe_any h l A cap (w.alloc (xbox h A l.length cap)) (hX.next hba) hcap hsm hc (hT.kept hba))
  have HB := Lib.hid hba
  clear hX hT hsm hc hba
  generalize safeB (.mk h l) = q at *
  go_enter Tryz.func18, Tryz.ntmps18
  go_wp2_with fail
  refine HC.out.mono ?_
  rintro e w1 ⟨rfl, hb⟩
  have HB2 := Lib.hid (bt HB.out hb)
  clear hb
  go_wp2_with fail
  go_ret
  exact ⟨rfl, HB2.out⟩
/-- What allHold answers. -/
def ah2 (o : Option Bool) : Value := match o with
  | some b => .tuple #[.bool b, .int .i64 0]
  | none => .tuple #[.bool false, .int .i64 160]
theorem ah2_form (o : Option Bool) : ∃ b E, ah2 o = .tuple #[.bool b, .int .i64 E] := by
  cases o with
  | none => exact ⟨_, _, rfl⟩
  | some v => exact ⟨_, _, rfl⟩
structure Am (w W : World) (h : Hd) (A : Option Addr) (len cap : Nat) (Ar : Option Addr) (r : List Va) : Prop where
  x : W.heap[w.heap.size]? = some (xbox h A len cap)
  bel : Below w.heap.size w W
  tab : TabV W
  tabs : Tabs W
  row : RowAt W Ar r
theorem Am.next {w W W' : World} {h : Hd} {A : Option Addr} {len cap : Nat} {Ar : Option Addr} {r : List Va} (H : Am w W h A len cap Ar r) (hb : Below W.heap.size W W') : Am w W' h A len cap Ar r :=
  ⟨(hb.block _ (Array.getElem?_eq_some_iff.1 H.x).1).trans H.x, bt H.bel hb, H.tab.kept hb, H.tabs.kept hb, H.row.kept hb⟩
theorem Am.new (w : World) (h : Hd) (A : Option Addr) (len cap : Nat) (Ar : Option Addr) (r : List Va) (hV : TabV w) (hT : Tabs w) (hR : RowAt w Ar r) : Am w (w.alloc (xbox h A len cap)) h A len cap Ar r := by
  have h1 := ba w (xbox h A len cap)
  exact ⟨(MapKept.heap_alloc w (xbox h A len cap)).1, h1, hV.kept h1, hT.kept h1, hR.kept h1⟩
set_option maxRecDepth 100000 in
set_option maxHeartbeats 8000000 in
theorem allHold_n (r : List Va) (Ar : Option Addr) (rc : Nat) (sf : Bool) (hrl : r.length ≤ 9223372036854775807) (hfine : Fine r) : ∀ (N : Nat) (h : Hd) (l : List Ex), cnt (.mk h l) ≤ N → cnt (.mk h l) ≤ 999999 → FitX (.mk h l) → AllSm (.mk h l) → hasA (.mk h l) = false →
    ∀ (w : World) (A : Option Addr) (cap : Nat), XsAt w.heap.size w l A → l.length ≤ cap → RowAt w Ar r → TabV w → Tabs w →
    Calls Tryz.prog 21 #[XV h A l.length cap, .slice Ar r.length rc, .bool sf] w fun e w' => e = .returned (ah2 (hldX r sf (.mk h l))) ∧ Below w.heap.size w w' := by
  intro N
  induction N with
  | zero => intro h l hc; have := cnt_pos (.mk h l); omega
  | succ N ih =>
    intro h l hc hcM hF hsm hA w A cap hX hcap hR hV hT
    have HM := Lib.hid (Am.new w h A l.length cap Ar r hV hT hR)
    by_cases hand : h.k = 3 ∧ h.n = 2
    · have hF0 := hF
      rw [FitX] at hF
      obtain ⟨xa, xb, rfl⟩ := fit_two hand.1 hand.2 hF.1
      have g3 : (h.k == 3) = true := by simpa using hand.1
      have g2 : (h.n == 2) = true := by simpa using hand.2
      have hq := hlds_two (r := r) (s := sf) (a := xa) (b := xb) (l := []) hand.1 hand.2
      rw [hq]
      obtain ⟨hh, ll⟩ := xa
      obtain ⟨hh', ll'⟩ := xb
      obtain ⟨g, o, A1, cap1, hAe, hg, hc1, hle1, hx1⟩ := XsB.at hX (i := 0) (h := hh) (l' := ll) rfl
      obtain ⟨g', o', A2, cap2, hAe', hg', hc2, hle2, hx2⟩ := XsB.at hX (i := 1) (h := hh') (l' := ll') rfl
      subst hAe
      simp only [Option.some.injEq, Addr.mk.injEq] at hAe'
      obtain ⟨rfl, rfl, _⟩ := hAe'
      rw [FitXs, FitXs] at hF
      rw [hasA, hasAs, hasAs, Bool.or_eq_false_iff, Bool.or_eq_false_iff, Bool.or_eq_false_iff] at hA
      rw [AllSm, AllSmL, AllSmL] at hsm
      rw [cnt_mk, cntL, cntL] at hc hcM
      have HI := fun w hw hr hv ht => ih hh ll (by omega) (by omega) hF.2.1 hsm.2.1 hA.2.1 w A1 cap1 hw hle1 hr hv ht
      have HJ := fun w hw hr hv ht => ih hh' ll' (by omega) (by omega) hF.2.2.1 hsm.2.2.1 hA.2.2.1 w A2 cap2 hw hle2 hr hv ht
      have HX1 := Lib.hid hx1
      have HX2 := Lib.hid hx2
      have HC1 := Lib.hid (show XC w g o hh A1 ll.length cap1 by simpa using hc1)
      have HC2 := Lib.hid (show XC w g (o + 8) hh' A2 ll'.length cap2 by simpa using hc2)
      have HG := Lib.hid hg
      have HM := Lib.hid (show Am w (w.alloc (xbox h (some ⟨g, o, none⟩) 2 cap)) h (some ⟨g, o, none⟩) 2 cap Ar r from HM.out)
      show Calls _ _ #[XV h (some ⟨g, o, none⟩) 2 cap, .slice Ar r.length rc, .bool sf] _ _
      clear ih hc hcM hF hF0 hsm hA hX hcap hR hV hT hand hq hx1 hx2 hc1 hc2 hg hg'
      generalize hldX r sf (.mk hh ll) = oa at HI ⊢
      generalize hldX r sf (.mk hh' ll') = ob at HJ ⊢
      match oa with
      | none =>
        have HI := Lib.hid (show ∀ (w : World), XsAt w.heap.size w ll A1 → RowAt w Ar r → TabV w → Tabs w → Calls Tryz.prog 21 #[XV hh A1 ll.length cap1, .slice Ar r.length rc, .bool sf] w fun e w' => e = .returned (.tuple #[.bool false, .int .i64 160]) ∧ Below w.heap.size w w' from HI)
        show Calls _ _ _ _ (fun e w' => e = .returned (.tuple #[.bool false, .int .i64 160]) ∧ _)
        clear HJ
        go_enter Tryz.func21, Tryz.ntmps21
        go_upto_region 1 with fail
        generalize w.alloc (.cells #[.int .i64 h.k, .int .i64 h.n, .int .i64 h.vk, .int .i64 h.vn, .string h.vs, .string h.tab, .string h.col, .slice (some ⟨g, o, none⟩) 2 cap] 30) = W at HM ⊢
        obtain ⟨⟨x0, x1, x2, x3, x4, x5, x6, x7⟩, _⟩ := cell8 HM.out.x
        obtain ⟨y0, y1, y2, y3, y4, y5, y6, y7⟩ := HC1.out.of (HM.out.bel.block g HG.out)
        go_wp2_with fail
        refine (HI.out _ (XsAt.next HX1.out HM.out.bel) HM.out.row HM.out.tab HM.out.tabs).mono ?_
        rintro e W ⟨rfl, hb⟩
        have HM := Lib.hid (HM.out.next hb)
        clear hb x0 x1 x2 x3 x4 x5 x6 x7
        obtain ⟨⟨x0, x1, x2, x3, x4, x5, x6, x7⟩, _⟩ := cell8 HM.out.x
        go_wp2_with fail
        exact bodyPost_ret (v := .tuple #[.bool false, .int .i64 160]) (by simp [results, Tryz.results21, go_sem]) rfl ⟨rfl, HM.out.bel⟩
      | some false =>
        have HI := Lib.hid (show ∀ (w : World), XsAt w.heap.size w ll A1 → RowAt w Ar r → TabV w → Tabs w → Calls Tryz.prog 21 #[XV hh A1 ll.length cap1, .slice Ar r.length rc, .bool sf] w fun e w' => e = .returned (.tuple #[.bool false, .int .i64 0]) ∧ Below w.heap.size w w' from HI)
        show Calls _ _ _ _ (fun e w' => e = .returned (.tuple #[.bool false, .int .i64 0]) ∧ _)
        clear HJ
        go_enter Tryz.func21, Tryz.ntmps21
        go_upto_region 1 with fail
        generalize w.alloc (.cells #[.int .i64 h.k, .int .i64 h.n, .int .i64 h.vk, .int .i64 h.vn, .string h.vs, .string h.tab, .string h.col, .slice (some ⟨g, o, none⟩) 2 cap] 30) = W at HM ⊢
        obtain ⟨⟨x0, x1, x2, x3, x4, x5, x6, x7⟩, _⟩ := cell8 HM.out.x
        obtain ⟨y0, y1, y2, y3, y4, y5, y6, y7⟩ := HC1.out.of (HM.out.bel.block g HG.out)
        go_wp2_with fail
        refine (HI.out _ (XsAt.next HX1.out HM.out.bel) HM.out.row HM.out.tab HM.out.tabs).mono ?_
        rintro e W ⟨rfl, hb⟩
        have HM := Lib.hid (HM.out.next hb)
        clear hb x0 x1 x2 x3 x4 x5 x6 x7
        obtain ⟨⟨x0, x1, x2, x3, x4, x5, x6, x7⟩, _⟩ := cell8 HM.out.x
        go_wp2_with fail
        exact bodyPost_ret (v := .tuple #[.bool false, .int .i64 0]) (by simp [results, Tryz.results21, go_sem]) rfl ⟨rfl, HM.out.bel⟩
      | some true =>
        have HI := Lib.hid (show ∀ (w : World), XsAt w.heap.size w ll A1 → RowAt w Ar r → TabV w → Tabs w → Calls Tryz.prog 21 #[XV hh A1 ll.length cap1, .slice Ar r.length rc, .bool sf] w fun e w' => e = .returned (.tuple #[.bool true, .int .i64 0]) ∧ Below w.heap.size w w' from HI)
        show Calls _ _ _ _ (fun e w' => e = .returned (ah2 ob) ∧ _)
        obtain ⟨bb, E, hE⟩ := ah2_form ob
        rw [hE] at HJ ⊢
        have HJ := Lib.hid HJ
        clear hE
        go_enter Tryz.func21, Tryz.ntmps21
        go_upto_region 1 with fail
        generalize w.alloc (.cells #[.int .i64 h.k, .int .i64 h.n, .int .i64 h.vk, .int .i64 h.vn, .string h.vs, .string h.tab, .string h.col, .slice (some ⟨g, o, none⟩) 2 cap] 30) = W at HM ⊢
        obtain ⟨⟨x0, x1, x2, x3, x4, x5, x6, x7⟩, _⟩ := cell8 HM.out.x
        obtain ⟨y0, y1, y2, y3, y4, y5, y6, y7⟩ := HC1.out.of (HM.out.bel.block g HG.out)
        go_wp2_with fail
        refine (HI.out _ (XsAt.next HX1.out HM.out.bel) HM.out.row HM.out.tab HM.out.tabs).mono ?_
        rintro e W ⟨rfl, hb⟩
        have HM := Lib.hid (HM.out.next hb)
        clear hb x0 x1 x2 x3 x4 x5 x6 x7
        obtain ⟨⟨x0, x1, x2, x3, x4, x5, x6, x7⟩, _⟩ := cell8 HM.out.x
        clear y0 y1 y2 y3 y4 y5 y6 y7
        obtain ⟨y0, y1, y2, y3, y4, y5, y6, y7⟩ := HC2.out.of (HM.out.bel.block g HG.out)
        go_wp2_with fail
        refine (HJ.out _ (XsAt.next HX2.out HM.out.bel) HM.out.row HM.out.tab HM.out.tabs).mono ?_
        rintro e W ⟨rfl, hb⟩
        have HM := Lib.hid (HM.out.next hb)
        clear hb x0 x1 x2 x3 x4 x5 x6 x7
        obtain ⟨⟨x0, x1, x2, x3, x4, x5, x6, x7⟩, _⟩ := cell8 HM.out.x
        go_wp2_with fail
        exact bodyPost_ret (v := .tuple #[.bool bb, .int .i64 E]) (by simp [results, Tryz.results21, go_sem]) rfl ⟨rfl, HM.out.bel⟩
    · have HC := Lib.hid (fun w1 hx hr hv => comes_n r Ar rc hrl hfine _ h l (Nat.le_refl _) hF hA w1 A cap hx hcap hr hv)
      have HS := fun w1 hx ht => safe_any h l A cap w1 hx hcap hsm hcM ht
      have HXs := Lib.hid (fun w1 (hb : Below w.heap.size w w1) => XsAt.next hX hb)
      have hq := hlds_one (r := r) (s := sf) (l := l) hand
      have hsh := com_sh hfine (.mk h l) hF
      generalize safeB (.mk h l) = sb at HS hq
      have HS := Lib.hid HS
      clear ih hc hcM hF hsm hA hX hcap hR hV hT
      by_cases h3 : h.k = 3
      · have g3 : (h.k == 3) = true := by simpa using h3
        have g2 : (h.n == 2) = false := by simpa using fun e => hand ⟨h3, e⟩
        clear hand h3
        cases sb
        · cases sf
          · have hq2 : hldX r false (.mk h l) = trueA (comX r (.mk h l)) := by rw [hq, if_pos rfl]
            rw [hq2]
            cases hu : comX r (.mk h l) with
            | none =>
              rw [hu] at HC
              have HC := Lib.hid (show ∀ (w : World), XsAt w.heap.size w l A → RowAt w Ar r → TabV w → Calls Tryz.prog 26 #[XV h A l.length cap, .slice Ar r.length rc] w fun e w' => e = .returned (.tuple #[VV 0 0 ⟨#[]⟩, .int .i64 160]) ∧ Below w.heap.size w w' from HC.out)
              show Calls _ _ _ _ (fun e w' => e = .returned (.tuple #[.bool false, .int .i64 160]) ∧ _)
              clear hq hq2 hu hsh
              go_enter Tryz.func21, Tryz.ntmps21
              go_upto_region 1 with fail
              generalize w.alloc (.cells #[.int .i64 h.k, .int .i64 h.n, .int .i64 h.vk, .int .i64 h.vn, .string h.vs, .string h.tab, .string h.col, .slice A l.length cap] 30) = W at HM ⊢
              obtain ⟨⟨x0, x1, x2, x3, x4, x5, x6, x7⟩, _⟩ := cell8 HM.out.x
              go_wp2_with fail
              refine (HS.out _ (HXs.out _ HM.out.bel) HM.out.tabs).mono ?_
              rintro e W ⟨rfl, hb⟩
              have HM := Lib.hid (HM.out.next hb)
              clear hb x0 x1 x2 x3 x4 x5 x6 x7
              obtain ⟨⟨x0, x1, x2, x3, x4, x5, x6, x7⟩, _⟩ := cell8 HM.out.x
              go_wp2_with fail
              refine (HC.out _ (HXs.out _ HM.out.bel) HM.out.row HM.out.tab).mono ?_
              rintro e W3 ⟨rfl, hb⟩
              have HM := Lib.hid ((HM.out.next hb).next (ba W3 (vbox 0 0 ⟨#[]⟩)))
              clear hb
              go_wp2_with fail
              exact bodyPost_ret (v := .tuple #[.bool false, .int .i64 160]) (by simp [results, Tryz.results21, go_sem]) rfl ⟨rfl, HM.out.bel⟩
            | some v =>
              rw [hu] at HC
              have hs := hsh v hu
              obtain ⟨k, n, s⟩ := v
              have HC := Lib.hid (show ∀ (w : World), XsAt w.heap.size w l A → RowAt w Ar r → TabV w → Calls Tryz.prog 26 #[XV h A l.length cap, .slice Ar r.length rc] w fun e w' => e = .returned (.tuple #[VV k n s, .int .i64 0]) ∧ Below w.heap.size w w' from HC.out)
              show Calls _ _ _ _ (fun e w' => e = .returned (.tuple #[.bool (truthV k n s == 1), .int .i64 0]) ∧ _)
              have HTr := fun w => vtruth_any k n s w hs
              generalize truthV k n s = t at HTr ⊢
              have HTr := Lib.hid HTr
              clear hq hq2 hu hsh hs
              go_enter Tryz.func21, Tryz.ntmps21
              go_upto_region 1 with fail
              generalize w.alloc (.cells #[.int .i64 h.k, .int .i64 h.n, .int .i64 h.vk, .int .i64 h.vn, .string h.vs, .string h.tab, .string h.col, .slice A l.length cap] 30) = W at HM ⊢
              obtain ⟨⟨x0, x1, x2, x3, x4, x5, x6, x7⟩, _⟩ := cell8 HM.out.x
              go_wp2_with fail
              refine (HS.out _ (HXs.out _ HM.out.bel) HM.out.tabs).mono ?_
              rintro e W ⟨rfl, hb⟩
              have HM := Lib.hid (HM.out.next hb)
              clear hb x0 x1 x2 x3 x4 x5 x6 x7
              obtain ⟨⟨x0, x1, x2, x3, x4, x5, x6, x7⟩, _⟩ := cell8 HM.out.x
              go_wp2_with fail
              refine (HC.out _ (HXs.out _ HM.out.bel) HM.out.row HM.out.tab).mono ?_
              rintro e W3 ⟨rfl, hb⟩
              have HM := Lib.hid ((HM.out.next hb).next (ba W3 (vbox k n s)))
              clear hb
              go_wp2_with fail
              refine (HTr.out _).mono ?_
              rintro e W4 ⟨rfl, hb⟩
              have HM := Lib.hid (HM.out.next hb)
              clear hb
              go_wp2_with fail
              exact bodyPost_ret (v := .tuple #[.bool (t == 1), .int .i64 0]) (by simp [results, Tryz.results21, go_sem]) rfl ⟨rfl, HM.out.bel⟩
          · have hq2 : hldX r true (.mk h l) = some true := by rw [hq, if_neg (by decide)]
            rw [hq2]
            show Calls _ _ _ _ (fun e w' => e = .returned (.tuple #[.bool true, .int .i64 0]) ∧ _)
            clear hq hq2 hsh
            go_enter Tryz.func21, Tryz.ntmps21
            go_upto_region 1 with fail
            generalize w.alloc (.cells #[.int .i64 h.k, .int .i64 h.n, .int .i64 h.vk, .int .i64 h.vn, .string h.vs, .string h.tab, .string h.col, .slice A l.length cap] 30) = W at HM ⊢
            obtain ⟨⟨x0, x1, x2, x3, x4, x5, x6, x7⟩, _⟩ := cell8 HM.out.x
            go_wp2_with fail
            refine (HS.out _ (HXs.out _ HM.out.bel) HM.out.tabs).mono ?_
            rintro e W ⟨rfl, hb⟩
            have HM := Lib.hid (HM.out.next hb)
            clear hb x0 x1 x2 x3 x4 x5 x6 x7
            obtain ⟨⟨x0, x1, x2, x3, x4, x5, x6, x7⟩, _⟩ := cell8 HM.out.x
            go_wp2_with fail
            exact bodyPost_ret (v := .tuple #[.bool true, .int .i64 0]) (by simp [results, Tryz.results21, go_sem]) rfl ⟨rfl, HM.out.bel⟩
        · cases sf
          · have hq2 : hldX r false (.mk h l) = some true := by rw [hq, if_neg (by decide)]
            rw [hq2]
            show Calls _ _ _ _ (fun e w' => e = .returned (.tuple #[.bool true, .int .i64 0]) ∧ _)
            clear hq hq2 hsh
            go_enter Tryz.func21, Tryz.ntmps21
            go_upto_region 1 with fail
            generalize w.alloc (.cells #[.int .i64 h.k, .int .i64 h.n, .int .i64 h.vk, .int .i64 h.vn, .string h.vs, .string h.tab, .string h.col, .slice A l.length cap] 30) = W at HM ⊢
            obtain ⟨⟨x0, x1, x2, x3, x4, x5, x6, x7⟩, _⟩ := cell8 HM.out.x
            go_wp2_with fail
            refine (HS.out _ (HXs.out _ HM.out.bel) HM.out.tabs).mono ?_
            rintro e W ⟨rfl, hb⟩
            have HM := Lib.hid (HM.out.next hb)
            clear hb x0 x1 x2 x3 x4 x5 x6 x7
            obtain ⟨⟨x0, x1, x2, x3, x4, x5, x6, x7⟩, _⟩ := cell8 HM.out.x
            go_wp2_with fail
            exact bodyPost_ret (v := .tuple #[.bool true, .int .i64 0]) (by simp [results, Tryz.results21, go_sem]) rfl ⟨rfl, HM.out.bel⟩
          · have hq2 : hldX r true (.mk h l) = trueA (comX r (.mk h l)) := by rw [hq, if_pos rfl]
            rw [hq2]
            cases hu : comX r (.mk h l) with
            | none =>
              rw [hu] at HC
              have HC := Lib.hid (show ∀ (w : World), XsAt w.heap.size w l A → RowAt w Ar r → TabV w → Calls Tryz.prog 26 #[XV h A l.length cap, .slice Ar r.length rc] w fun e w' => e = .returned (.tuple #[VV 0 0 ⟨#[]⟩, .int .i64 160]) ∧ Below w.heap.size w w' from HC.out)
              show Calls _ _ _ _ (fun e w' => e = .returned (.tuple #[.bool false, .int .i64 160]) ∧ _)
              clear hq hq2 hu hsh
              go_enter Tryz.func21, Tryz.ntmps21
              go_upto_region 1 with fail
              generalize w.alloc (.cells #[.int .i64 h.k, .int .i64 h.n, .int .i64 h.vk, .int .i64 h.vn, .string h.vs, .string h.tab, .string h.col, .slice A l.length cap] 30) = W at HM ⊢
              obtain ⟨⟨x0, x1, x2, x3, x4, x5, x6, x7⟩, _⟩ := cell8 HM.out.x
              go_wp2_with fail
              refine (HS.out _ (HXs.out _ HM.out.bel) HM.out.tabs).mono ?_
              rintro e W ⟨rfl, hb⟩
              have HM := Lib.hid (HM.out.next hb)
              clear hb x0 x1 x2 x3 x4 x5 x6 x7
              obtain ⟨⟨x0, x1, x2, x3, x4, x5, x6, x7⟩, _⟩ := cell8 HM.out.x
              go_wp2_with fail
              refine (HC.out _ (HXs.out _ HM.out.bel) HM.out.row HM.out.tab).mono ?_
              rintro e W3 ⟨rfl, hb⟩
              have HM := Lib.hid ((HM.out.next hb).next (ba W3 (vbox 0 0 ⟨#[]⟩)))
              clear hb
              go_wp2_with fail
              exact bodyPost_ret (v := .tuple #[.bool false, .int .i64 160]) (by simp [results, Tryz.results21, go_sem]) rfl ⟨rfl, HM.out.bel⟩
            | some v =>
              rw [hu] at HC
              have hs := hsh v hu
              obtain ⟨k, n, s⟩ := v
              have HC := Lib.hid (show ∀ (w : World), XsAt w.heap.size w l A → RowAt w Ar r → TabV w → Calls Tryz.prog 26 #[XV h A l.length cap, .slice Ar r.length rc] w fun e w' => e = .returned (.tuple #[VV k n s, .int .i64 0]) ∧ Below w.heap.size w w' from HC.out)
              show Calls _ _ _ _ (fun e w' => e = .returned (.tuple #[.bool (truthV k n s == 1), .int .i64 0]) ∧ _)
              have HTr := fun w => vtruth_any k n s w hs
              generalize truthV k n s = t at HTr ⊢
              have HTr := Lib.hid HTr
              clear hq hq2 hu hsh hs
              go_enter Tryz.func21, Tryz.ntmps21
              go_upto_region 1 with fail
              generalize w.alloc (.cells #[.int .i64 h.k, .int .i64 h.n, .int .i64 h.vk, .int .i64 h.vn, .string h.vs, .string h.tab, .string h.col, .slice A l.length cap] 30) = W at HM ⊢
              obtain ⟨⟨x0, x1, x2, x3, x4, x5, x6, x7⟩, _⟩ := cell8 HM.out.x
              go_wp2_with fail
              refine (HS.out _ (HXs.out _ HM.out.bel) HM.out.tabs).mono ?_
              rintro e W ⟨rfl, hb⟩
              have HM := Lib.hid (HM.out.next hb)
              clear hb x0 x1 x2 x3 x4 x5 x6 x7
              obtain ⟨⟨x0, x1, x2, x3, x4, x5, x6, x7⟩, _⟩ := cell8 HM.out.x
              go_wp2_with fail
              refine (HC.out _ (HXs.out _ HM.out.bel) HM.out.row HM.out.tab).mono ?_
              rintro e W3 ⟨rfl, hb⟩
              have HM := Lib.hid ((HM.out.next hb).next (ba W3 (vbox k n s)))
              clear hb
              go_wp2_with fail
              refine (HTr.out _).mono ?_
              rintro e W4 ⟨rfl, hb⟩
              have HM := Lib.hid (HM.out.next hb)
              clear hb
              go_wp2_with fail
              exact bodyPost_ret (v := .tuple #[.bool (t == 1), .int .i64 0]) (by simp [results, Tryz.results21, go_sem]) rfl ⟨rfl, HM.out.bel⟩
      · have g3 : (h.k == 3) = false := by simpa using h3
        clear hand h3
        cases sb
        · cases sf
          · have hq2 : hldX r false (.mk h l) = trueA (comX r (.mk h l)) := by rw [hq, if_pos rfl]
            rw [hq2]
            cases hu : comX r (.mk h l) with
            | none =>
              rw [hu] at HC
              have HC := Lib.hid (show ∀ (w : World), XsAt w.heap.size w l A → RowAt w Ar r → TabV w → Calls Tryz.prog 26 #[XV h A l.length cap, .slice Ar r.length rc] w fun e w' => e = .returned (.tuple #[VV 0 0 ⟨#[]⟩, .int .i64 160]) ∧ Below w.heap.size w w' from HC.out)
              show Calls _ _ _ _ (fun e w' => e = .returned (.tuple #[.bool false, .int .i64 160]) ∧ _)
              clear hq hq2 hu hsh
              go_enter Tryz.func21, Tryz.ntmps21
              go_upto_region 1 with fail
              generalize w.alloc (.cells #[.int .i64 h.k, .int .i64 h.n, .int .i64 h.vk, .int .i64 h.vn, .string h.vs, .string h.tab, .string h.col, .slice A l.length cap] 30) = W at HM ⊢
              obtain ⟨⟨x0, x1, x2, x3, x4, x5, x6, x7⟩, _⟩ := cell8 HM.out.x
              go_wp2_with fail
              refine (HS.out _ (HXs.out _ HM.out.bel) HM.out.tabs).mono ?_
              rintro e W ⟨rfl, hb⟩
              have HM := Lib.hid (HM.out.next hb)
              clear hb x0 x1 x2 x3 x4 x5 x6 x7
              obtain ⟨⟨x0, x1, x2, x3, x4, x5, x6, x7⟩, _⟩ := cell8 HM.out.x
              go_wp2_with fail
              refine (HC.out _ (HXs.out _ HM.out.bel) HM.out.row HM.out.tab).mono ?_
              rintro e W3 ⟨rfl, hb⟩
              have HM := Lib.hid ((HM.out.next hb).next (ba W3 (vbox 0 0 ⟨#[]⟩)))
              clear hb
              go_wp2_with fail
              exact bodyPost_ret (v := .tuple #[.bool false, .int .i64 160]) (by simp [results, Tryz.results21, go_sem]) rfl ⟨rfl, HM.out.bel⟩
            | some v =>
              rw [hu] at HC
              have hs := hsh v hu
              obtain ⟨k, n, s⟩ := v
              have HC := Lib.hid (show ∀ (w : World), XsAt w.heap.size w l A → RowAt w Ar r → TabV w → Calls Tryz.prog 26 #[XV h A l.length cap, .slice Ar r.length rc] w fun e w' => e = .returned (.tuple #[VV k n s, .int .i64 0]) ∧ Below w.heap.size w w' from HC.out)
              show Calls _ _ _ _ (fun e w' => e = .returned (.tuple #[.bool (truthV k n s == 1), .int .i64 0]) ∧ _)
              have HTr := fun w => vtruth_any k n s w hs
              generalize truthV k n s = t at HTr ⊢
              have HTr := Lib.hid HTr
              clear hq hq2 hu hsh hs
              go_enter Tryz.func21, Tryz.ntmps21
              go_upto_region 1 with fail
              generalize w.alloc (.cells #[.int .i64 h.k, .int .i64 h.n, .int .i64 h.vk, .int .i64 h.vn, .string h.vs, .string h.tab, .string h.col, .slice A l.length cap] 30) = W at HM ⊢
              obtain ⟨⟨x0, x1, x2, x3, x4, x5, x6, x7⟩, _⟩ := cell8 HM.out.x
              go_wp2_with fail
              refine (HS.out _ (HXs.out _ HM.out.bel) HM.out.tabs).mono ?_
              rintro e W ⟨rfl, hb⟩
              have HM := Lib.hid (HM.out.next hb)
              clear hb x0 x1 x2 x3 x4 x5 x6 x7
              obtain ⟨⟨x0, x1, x2, x3, x4, x5, x6, x7⟩, _⟩ := cell8 HM.out.x
              go_wp2_with fail
              refine (HC.out _ (HXs.out _ HM.out.bel) HM.out.row HM.out.tab).mono ?_
              rintro e W3 ⟨rfl, hb⟩
              have HM := Lib.hid ((HM.out.next hb).next (ba W3 (vbox k n s)))
              clear hb
              go_wp2_with fail
              refine (HTr.out _).mono ?_
              rintro e W4 ⟨rfl, hb⟩
              have HM := Lib.hid (HM.out.next hb)
              clear hb
              go_wp2_with fail
              exact bodyPost_ret (v := .tuple #[.bool (t == 1), .int .i64 0]) (by simp [results, Tryz.results21, go_sem]) rfl ⟨rfl, HM.out.bel⟩
          · have hq2 : hldX r true (.mk h l) = some true := by rw [hq, if_neg (by decide)]
            rw [hq2]
            show Calls _ _ _ _ (fun e w' => e = .returned (.tuple #[.bool true, .int .i64 0]) ∧ _)
            clear hq hq2 hsh
            go_enter Tryz.func21, Tryz.ntmps21
            go_upto_region 1 with fail
            generalize w.alloc (.cells #[.int .i64 h.k, .int .i64 h.n, .int .i64 h.vk, .int .i64 h.vn, .string h.vs, .string h.tab, .string h.col, .slice A l.length cap] 30) = W at HM ⊢
            obtain ⟨⟨x0, x1, x2, x3, x4, x5, x6, x7⟩, _⟩ := cell8 HM.out.x
            go_wp2_with fail
            refine (HS.out _ (HXs.out _ HM.out.bel) HM.out.tabs).mono ?_
            rintro e W ⟨rfl, hb⟩
            have HM := Lib.hid (HM.out.next hb)
            clear hb x0 x1 x2 x3 x4 x5 x6 x7
            obtain ⟨⟨x0, x1, x2, x3, x4, x5, x6, x7⟩, _⟩ := cell8 HM.out.x
            go_wp2_with fail
            exact bodyPost_ret (v := .tuple #[.bool true, .int .i64 0]) (by simp [results, Tryz.results21, go_sem]) rfl ⟨rfl, HM.out.bel⟩
        · cases sf
          · have hq2 : hldX r false (.mk h l) = some true := by rw [hq, if_neg (by decide)]
            rw [hq2]
            show Calls _ _ _ _ (fun e w' => e = .returned (.tuple #[.bool true, .int .i64 0]) ∧ _)
            clear hq hq2 hsh
            go_enter Tryz.func21, Tryz.ntmps21
            go_upto_region 1 with fail
            generalize w.alloc (.cells #[.int .i64 h.k, .int .i64 h.n, .int .i64 h.vk, .int .i64 h.vn, .string h.vs, .string h.tab, .string h.col, .slice A l.length cap] 30) = W at HM ⊢
            obtain ⟨⟨x0, x1, x2, x3, x4, x5, x6, x7⟩, _⟩ := cell8 HM.out.x
            go_wp2_with fail
            refine (HS.out _ (HXs.out _ HM.out.bel) HM.out.tabs).mono ?_
            rintro e W ⟨rfl, hb⟩
            have HM := Lib.hid (HM.out.next hb)
            clear hb x0 x1 x2 x3 x4 x5 x6 x7
            obtain ⟨⟨x0, x1, x2, x3, x4, x5, x6, x7⟩, _⟩ := cell8 HM.out.x
            go_wp2_with fail
            exact bodyPost_ret (v := .tuple #[.bool true, .int .i64 0]) (by simp [results, Tryz.results21, go_sem]) rfl ⟨rfl, HM.out.bel⟩
          · have hq2 : hldX r true (.mk h l) = trueA (comX r (.mk h l)) := by rw [hq, if_pos rfl]
            rw [hq2]
            cases hu : comX r (.mk h l) with
            | none =>
              rw [hu] at HC
              have HC := Lib.hid (show ∀ (w : World), XsAt w.heap.size w l A → RowAt w Ar r → TabV w → Calls Tryz.prog 26 #[XV h A l.length cap, .slice Ar r.length rc] w fun e w' => e = .returned (.tuple #[VV 0 0 ⟨#[]⟩, .int .i64 160]) ∧ Below w.heap.size w w' from HC.out)
              show Calls _ _ _ _ (fun e w' => e = .returned (.tuple #[.bool false, .int .i64 160]) ∧ _)
              clear hq hq2 hu hsh
              go_enter Tryz.func21, Tryz.ntmps21
              go_upto_region 1 with fail
              generalize w.alloc (.cells #[.int .i64 h.k, .int .i64 h.n, .int .i64 h.vk, .int .i64 h.vn, .string h.vs, .string h.tab, .string h.col, .slice A l.length cap] 30) = W at HM ⊢
              obtain ⟨⟨x0, x1, x2, x3, x4, x5, x6, x7⟩, _⟩ := cell8 HM.out.x
              go_wp2_with fail
              refine (HS.out _ (HXs.out _ HM.out.bel) HM.out.tabs).mono ?_
              rintro e W ⟨rfl, hb⟩
              have HM := Lib.hid (HM.out.next hb)
              clear hb x0 x1 x2 x3 x4 x5 x6 x7
              obtain ⟨⟨x0, x1, x2, x3, x4, x5, x6, x7⟩, _⟩ := cell8 HM.out.x
              go_wp2_with fail
              refine (HC.out _ (HXs.out _ HM.out.bel) HM.out.row HM.out.tab).mono ?_
              rintro e W3 ⟨rfl, hb⟩
              have HM := Lib.hid ((HM.out.next hb).next (ba W3 (vbox 0 0 ⟨#[]⟩)))
              clear hb
              go_wp2_with fail
              exact bodyPost_ret (v := .tuple #[.bool false, .int .i64 160]) (by simp [results, Tryz.results21, go_sem]) rfl ⟨rfl, HM.out.bel⟩
            | some v =>
              rw [hu] at HC
              have hs := hsh v hu
              obtain ⟨k, n, s⟩ := v
              have HC := Lib.hid (show ∀ (w : World), XsAt w.heap.size w l A → RowAt w Ar r → TabV w → Calls Tryz.prog 26 #[XV h A l.length cap, .slice Ar r.length rc] w fun e w' => e = .returned (.tuple #[VV k n s, .int .i64 0]) ∧ Below w.heap.size w w' from HC.out)
              show Calls _ _ _ _ (fun e w' => e = .returned (.tuple #[.bool (truthV k n s == 1), .int .i64 0]) ∧ _)
              have HTr := fun w => vtruth_any k n s w hs
              generalize truthV k n s = t at HTr ⊢
              have HTr := Lib.hid HTr
              clear hq hq2 hu hsh hs
              go_enter Tryz.func21, Tryz.ntmps21
              go_upto_region 1 with fail
              generalize w.alloc (.cells #[.int .i64 h.k, .int .i64 h.n, .int .i64 h.vk, .int .i64 h.vn, .string h.vs, .string h.tab, .string h.col, .slice A l.length cap] 30) = W at HM ⊢
              obtain ⟨⟨x0, x1, x2, x3, x4, x5, x6, x7⟩, _⟩ := cell8 HM.out.x
              go_wp2_with fail
              refine (HS.out _ (HXs.out _ HM.out.bel) HM.out.tabs).mono ?_
              rintro e W ⟨rfl, hb⟩
              have HM := Lib.hid (HM.out.next hb)
              clear hb x0 x1 x2 x3 x4 x5 x6 x7
              obtain ⟨⟨x0, x1, x2, x3, x4, x5, x6, x7⟩, _⟩ := cell8 HM.out.x
              go_wp2_with fail
              refine (HC.out _ (HXs.out _ HM.out.bel) HM.out.row HM.out.tab).mono ?_
              rintro e W3 ⟨rfl, hb⟩
              have HM := Lib.hid ((HM.out.next hb).next (ba W3 (vbox k n s)))
              clear hb
              go_wp2_with fail
              refine (HTr.out _).mono ?_
              rintro e W4 ⟨rfl, hb⟩
              have HM := Lib.hid (HM.out.next hb)
              clear hb
              go_wp2_with fail
              exact bodyPost_ret (v := .tuple #[.bool (t == 1), .int .i64 0]) (by simp [results, Tryz.results21, go_sem]) rfl ⟨rfl, HM.out.bel⟩
end Go.Proofs.YtpokpiphnggfpaaGreatDoor
end
section
namespace Go.Proofs.YtpokpiphnggfpaaGreatDoor
open Go.RowKit Go.Shelf
attribute [local go_sem] Oper.semAt_some

/-- What Holds answers. -/
def ho2 (r : List Va) (x : Ex) : Value := if mayI x = 0 then ah2 (holdO r x) else .tuple #[.bool false, .int .i64 (mayI x)]
set_option maxRecDepth 100000 in
theorem idx0 (w : World) : (Instr.index 48 (.agg #[.bool true, .bool false]) (.int .i64 0)).run Tryz.prog w = .ok (.bool true) w := by
  first | rfl | (simp [Instr.index]; done) | (unfold Instr.index; rfl)
set_option maxRecDepth 100000 in
theorem idx1 (w : World) : (Instr.index 48 (.agg #[.bool true, .bool false]) (.int .i64 1)).run Tryz.prog w = .ok (.bool false) w := by
  first | rfl | (simp [Instr.index]; done) | (unfold Instr.index; rfl)
set_option maxRecDepth 100000 in
set_option maxHeartbeats 8000000 in
theorem holds_any (r : List Va) (Ar : Option Addr) (rc : Nat) (hrl : r.length ≤ 9223372036854775807) (hfine : Fine r) (h : Hd) (l : List Ex) (A : Option Addr) (cap : Nat) (w : World) (hX : XsAt w.heap.size w l A) (hcap : l.length ≤ cap) (hsm : AllSm (.mk h l)) (hc : cnt (.mk h l) ≤ 999999)
    (hR : RowAt w Ar r) (hV : TabV w) (hT : Tabs w) :
    Calls Tryz.prog 7 #[XV h A l.length cap, .slice Ar r.length rc] w fun e w' => e = .returned (ho2 r (.mk h l)) ∧ Below w.heap.size w w' := by
  have HM := Lib.hid (Am.new w h A l.length cap Ar r hV hT hR)
  have HXs := Lib.hid (fun w1 (hb : Below w.heap.size w w1) => XsAt.next hX hb)
  have HCk := fun w1 (hb : Below w.heap.size w w1) => ccheck_any h l A cap w1 (XsAt.next hX hb) hcap hsm hc (hT.kept hb)
  clear hX hR hV hT
  by_cases hm : mayI (.mk h l) = 0
  · obtain ⟨ho, ha⟩ := may_zero hm
    have HS := fun w1 hx hr hv ht => allHold_n r Ar rc true hrl hfine _ h l (Nat.le_refl _) hc (ok_fit ho).1 hsm ha w1 A cap hx hcap hr hv ht
    have HO := fun w1 hx hr hv ht => allHold_n r Ar rc false hrl hfine _ h l (Nat.le_refl _) hc (ok_fit ho).1 hsm ha w1 A cap hx hcap hr hv ht
    rw [hm] at HCk
    rw [show ho2 r (.mk h l) = ah2 (sqB (hldX r true (.mk h l)) (hldX r false (.mk h l))) by rw [ho2, if_pos hm]; rfl]
    have HCk := Lib.hid HCk
    clear hm ho ha hsm hc hcap
    have hi0 := idx0
    have hi1 := idx1
    generalize hldX r true (.mk h l) = os at HS ⊢
    generalize hldX r false (.mk h l) = oo at HO ⊢
    go_enter Tryz.func7, Tryz.ntmps7
    go_upto_region 1 with fail
    generalize w.alloc (.cells #[.int .i64 h.k, .int .i64 h.n, .int .i64 h.vk, .int .i64 h.vn, .string h.vs, .string h.tab, .string h.col, .slice A l.length cap] 30) = W at HM ⊢
    obtain ⟨⟨x0, x1, x2, x3, x4, x5, x6, x7⟩, _⟩ := cell8 HM.out.x
    go_wp2_with fail
    refine (HCk.out _ HM.out.bel).mono ?_
    rintro e W ⟨rfl, hb⟩
    have HM := Lib.hid (HM.out.next hb)
    clear hb x0 x1 x2 x3 x4 x5 x6 x7
    obtain ⟨⟨x0, x1, x2, x3, x4, x5, x6, x7⟩, _⟩ := cell8 HM.out.x
    go_wp2_with fail
    go_loopw [17] (fun i wr => ∃ j : Int, (j = 0 ∨ j = 1 ∨ j = 2) ∧ i = .int .i64 j ∧ Hid (Am w wr h A l.length cap Ar r) ∧ Hid (1 ≤ j → os = some true) ∧ Hid (2 ≤ j → oo = some true)) (fun i _ => 2 - (intOf i).toNat)
    case atStart => exact ⟨0, .inl rfl, rfl, HM, Lib.hid (fun h => absurd h (by omega)), Lib.hid (fun h => absurd h (by omega))⟩
    case round =>
      obtain ⟨j, hj, rfl, HN, H1, H2⟩ := hrel
      clear HM
      have HM := HN
      clear HN x0 x1 x2 x3 x4 x5 x6 x7
      obtain ⟨⟨x0, x1, x2, x3, x4, x5, x6, x7⟩, _⟩ := cell8 HM.out.x
      rcases hj with rfl | rfl | rfl
      · cases ho : os with
        | none =>
          rw [ho] at HS
          have HS := Lib.hid (show ∀ (w : World), XsAt w.heap.size w l A → RowAt w Ar r → TabV w → Tabs w → Calls Tryz.prog 21 #[XV h A l.length cap, .slice Ar r.length rc, .bool true] w fun e w' => e = .returned (.tuple #[.bool false, .int .i64 160]) ∧ Below w.heap.size w w' from HS)
          have HO2 := Lib.hid ho
          clear ho
          go_wp2_with fail
          refine (HS.out _ (HXs.out _ HM.out.bel) HM.out.row HM.out.tab HM.out.tabs).mono ?_
          rintro e W ⟨rfl, hb⟩
          have HM := Lib.hid (HM.out.next hb)
          clear hb x0 x1 x2 x3 x4 x5 x6 x7
          obtain ⟨⟨x0, x1, x2, x3, x4, x5, x6, x7⟩, _⟩ := cell8 HM.out.x
          go_wp2_with fail
          exact bodyPost_ret (v := .tuple #[.bool false, .int .i64 160]) (by simp [results, Tryz.results7, go_sem]) rfl ⟨by rw [HO2.out]; rfl, HM.out.bel⟩
        | some q =>
          cases q
          · rw [ho] at HS
            have HS := Lib.hid (show ∀ (w : World), XsAt w.heap.size w l A → RowAt w Ar r → TabV w → Tabs w → Calls Tryz.prog 21 #[XV h A l.length cap, .slice Ar r.length rc, .bool true] w fun e w' => e = .returned (.tuple #[.bool false, .int .i64 0]) ∧ Below w.heap.size w w' from HS)
            have HO2 := Lib.hid ho
            clear ho
            go_wp2_with fail
            refine (HS.out _ (HXs.out _ HM.out.bel) HM.out.row HM.out.tab HM.out.tabs).mono ?_
            rintro e W ⟨rfl, hb⟩
            have HM := Lib.hid (HM.out.next hb)
            clear hb x0 x1 x2 x3 x4 x5 x6 x7
            obtain ⟨⟨x0, x1, x2, x3, x4, x5, x6, x7⟩, _⟩ := cell8 HM.out.x
            go_wp2_with fail
            exact bodyPost_ret (v := .tuple #[.bool false, .int .i64 0]) (by simp [results, Tryz.results7, go_sem]) rfl ⟨by rw [HO2.out]; rfl, HM.out.bel⟩
          · rw [ho] at HS
            have HS := Lib.hid (show ∀ (w : World), XsAt w.heap.size w l A → RowAt w Ar r → TabV w → Tabs w → Calls Tryz.prog 21 #[XV h A l.length cap, .slice Ar r.length rc, .bool true] w fun e w' => e = .returned (.tuple #[.bool true, .int .i64 0]) ∧ Below w.heap.size w w' from HS)
            have HO2 := Lib.hid ho
            clear ho
            go_wp2_with fail
            refine (HS.out _ (HXs.out _ HM.out.bel) HM.out.row HM.out.tab HM.out.tabs).mono ?_
            rintro e W ⟨rfl, hb⟩
            have HM := Lib.hid (HM.out.next hb)
            clear hb x0 x1 x2 x3 x4 x5 x6 x7
            obtain ⟨⟨x0, x1, x2, x3, x4, x5, x6, x7⟩, _⟩ := cell8 HM.out.x
            go_wp2_with fail
            go_roundw
            case rel => exact ⟨1, .inr (.inl rfl), rfl, HM, Lib.hid (fun _ => by first | exact HO2.out | trivial), Lib.hid (fun h => absurd h (by omega))⟩
            case measure => simp [intOf]
      · clear HS
        cases ho : oo with
        | none =>
          rw [ho] at HO
          have HO := Lib.hid (show ∀ (w : World), XsAt w.heap.size w l A → RowAt w Ar r → TabV w → Tabs w → Calls Tryz.prog 21 #[XV h A l.length cap, .slice Ar r.length rc, .bool false] w fun e w' => e = .returned (.tuple #[.bool false, .int .i64 160]) ∧ Below w.heap.size w w' from HO)
          have HO2 := Lib.hid ho
          clear ho
          go_wp2_with fail
          refine (HO.out _ (HXs.out _ HM.out.bel) HM.out.row HM.out.tab HM.out.tabs).mono ?_
          rintro e W ⟨rfl, hb⟩
          have HM := Lib.hid (HM.out.next hb)
          clear hb x0 x1 x2 x3 x4 x5 x6 x7
          obtain ⟨⟨x0, x1, x2, x3, x4, x5, x6, x7⟩, _⟩ := cell8 HM.out.x
          go_wp2_with fail
          exact bodyPost_ret (v := .tuple #[.bool false, .int .i64 160]) (by simp [results, Tryz.results7, go_sem]) rfl ⟨by rw [H1.out (by omega), HO2.out]; rfl, HM.out.bel⟩
        | some q =>
          cases q
          · rw [ho] at HO
            have HO := Lib.hid (show ∀ (w : World), XsAt w.heap.size w l A → RowAt w Ar r → TabV w → Tabs w → Calls Tryz.prog 21 #[XV h A l.length cap, .slice Ar r.length rc, .bool false] w fun e w' => e = .returned (.tuple #[.bool false, .int .i64 0]) ∧ Below w.heap.size w w' from HO)
            have HO2 := Lib.hid ho
            clear ho
            go_wp2_with fail
            refine (HO.out _ (HXs.out _ HM.out.bel) HM.out.row HM.out.tab HM.out.tabs).mono ?_
            rintro e W ⟨rfl, hb⟩
            have HM := Lib.hid (HM.out.next hb)
            clear hb x0 x1 x2 x3 x4 x5 x6 x7
            obtain ⟨⟨x0, x1, x2, x3, x4, x5, x6, x7⟩, _⟩ := cell8 HM.out.x
            go_wp2_with fail
            exact bodyPost_ret (v := .tuple #[.bool false, .int .i64 0]) (by simp [results, Tryz.results7, go_sem]) rfl ⟨by rw [H1.out (by omega), HO2.out]; rfl, HM.out.bel⟩
          · rw [ho] at HO
            have HO := Lib.hid (show ∀ (w : World), XsAt w.heap.size w l A → RowAt w Ar r → TabV w → Tabs w → Calls Tryz.prog 21 #[XV h A l.length cap, .slice Ar r.length rc, .bool false] w fun e w' => e = .returned (.tuple #[.bool true, .int .i64 0]) ∧ Below w.heap.size w w' from HO)
            have HO2 := Lib.hid ho
            clear ho
            go_wp2_with fail
            refine (HO.out _ (HXs.out _ HM.out.bel) HM.out.row HM.out.tab HM.out.tabs).mono ?_
            rintro e W ⟨rfl, hb⟩
            have HM := Lib.hid (HM.out.next hb)
            clear hb x0 x1 x2 x3 x4 x5 x6 x7
            obtain ⟨⟨x0, x1, x2, x3, x4, x5, x6, x7⟩, _⟩ := cell8 HM.out.x
            go_wp2_with fail
            go_roundw
            case rel => exact ⟨2, .inr (.inr rfl), rfl, HM, Lib.hid (fun _ => by first | exact H1.out (by omega) | trivial), Lib.hid (fun _ => by first | exact HO2.out | trivial)⟩
            case measure => simp [intOf]
      · clear HS HO
        go_wp2_with fail
        exact bodyPost_ret (v := .tuple #[.bool true, .int .i64 0]) (by simp [results, Tryz.results7, go_sem]) rfl ⟨by rw [H1.out (by omega), H2.out (by omega)]; rfl, HM.out.bel⟩
  · have HE := Lib.hid (show ho2 r (.mk h l) = .tuple #[.bool false, .int .i64 (mayI (.mk h l))] by rw [ho2, if_neg hm])
    rw [HE.out]
    generalize mayI (.mk h l) = m at *
    have gm : (m != 0) = true := by simpa using hm
    have HCk := Lib.hid HCk
    clear hm HE
    go_enter Tryz.func7, Tryz.ntmps7
    go_upto_region 1 with fail
    generalize w.alloc (.cells #[.int .i64 h.k, .int .i64 h.n, .int .i64 h.vk, .int .i64 h.vn, .string h.vs, .string h.tab, .string h.col, .slice A l.length cap] 30) = W at HM ⊢
    obtain ⟨⟨x0, x1, x2, x3, x4, x5, x6, x7⟩, _⟩ := cell8 HM.out.x
    go_wp2_with fail
    refine (HCk.out _ HM.out.bel).mono ?_
    rintro e W ⟨rfl, hb⟩
    have HM := Lib.hid (HM.out.next hb)
    clear hb x0 x1 x2 x3 x4 x5 x6 x7
    obtain ⟨⟨x0, x1, x2, x3, x4, x5, x6, x7⟩, _⟩ := cell8 HM.out.x
    go_wp2_with fail
    exact bodyPost_ret (v := .tuple #[.bool false, .int .i64 m]) (by simp [results, Tryz.results7, go_sem]) rfl ⟨rfl, HM.out.bel⟩
end Go.Proofs.YtpokpiphnggfpaaGreatDoor
end
section
namespace Go.Proofs.YtpokpiphnggfpaaGreatDoor
open Go.RowKit Go.Shelf

def noDef (ops : Array Oper) : Bool := ops.all fun o => match o.op with | .defer _ => false | _ => true
theorem noDef_at {ops : Array Oper} (h : noDef ops = true) {i : Nat} {o : Oper} (ho : ops[i]? = some o) : ∀ c, o.op ≠ .defer c := by
  intro c hc
  have := Array.all_eq_true_iff_forall_mem.1 h o (Array.mem_of_getElem? ho)
  rw [hc] at this
  cases this
theorem upon_in {l n : Nat} {P : Program} {o : Oper} {a : Act} {K : Act → World → Prop} {Q : Exit → Act → World → Prop} {r : Result Next} (h : o.upon P a K Q r) : o.uponIn (Fence.wide.inRound l) n P a K Q r := by
  cases r with
  | ok x w =>
    cases x with
    | value v => exact h
    | skip => exact h
    | «defer» d => exact h
    | enter f args => exact ⟨(fun e => by cases e), CallsIn.inRound l (callsIn_wide.2 h)⟩
    | row row args =>
      refine ⟨(fun e => by cases e), fun c cs _ => ?_⟩
      obtain ⟨v, w', hv, hs⟩ := h c cs
      exact ⟨v, w', hv, stepsIn_wide.2 hs⟩
    | _ => exact absurd h id
  | halt x w =>
    cases x with
    | panic v => exact h
    | _ => exact absurd h id
theorem wpOp_in {l n : Nat} {P : Program} {ops : Array Oper} {Q : Exit → Act → World → Prop} {i : Nat} {K : Act → World → Prop} {a : Act} {w : World} (hd : noDef ops = true) (hq : ¬ LetsOut Q) (h : wpOp P ops Q i K a w) :
    wpOpIn (Fence.wide.inRound l) n P ops Q i K a w := by
  unfold wpOp at h
  unfold wpOpIn
  cases ho : ops[i]? with
  | none => rw [ho] at h; exact h
  | some o =>
    rw [ho] at h
    simp only at h ⊢
    split
    · rename_i hw
      rw [if_pos hw] at h
      rcases h with h | ⟨_, hl⟩
      · refine ⟨fun _ _ => trivial, ?_⟩
        rw [Oper.semAt_eq _ _ _ (noDef_at hd ho)]
        exact upon_in h
      · exact absurd hl hq
    · rename_i hw
      rw [if_neg hw] at h
      exact ⟨fun _ _ => trivial, h⟩
theorem wpAny_in {l n : Nat} {P : Program} {md : Region.Mode} {ops : Array Oper} {Q : Exit → Act → World → Prop} (hd : noDef ops = true) (hq : ¬ LetsOut Q) : ∀ (fuel : Nat) (listed : Array Bool) (a : Act) (w : World), wpAny P md ops Q fuel listed a w → wpAnyIn (Fence.wide.inRound l) n P md ops Q fuel listed a w := by
  intro fuel
  induction fuel with
  | zero => intro listed a w h; exact h
  | succ fuel ih =>
    intro listed a w h
    exact ⟨h.1, fun i hi => wpOpIn_mono (fun a w => ih _ a w) (wpOp_in hd hq (h.2 i hi))⟩
theorem wpIn_held {l n : Nat} {P : Program} {id : Nat} {ops : Array Oper} {Q : Exit → Act → World → Prop} {S : World → Prop} {a : Act} {w : World} (hm : P.follows .mixedOrders = true) (hd : noDef ops = true) (hq : ∀ a w, ¬ Q .outgrown a w) (hS : S w.drew)
    (h : S w.drew → wpAnyH P .any ops (NoPanic Q) S ops.size (Array.replicate ops.size false) a w.drew) : (Code.region id ops true).wpIn (Fence.wide.inRound l) n P Q a w :=
  Code.wpIn_mono NoPanic.imp (wpIn_region_any hm (wpAny_in (Q := NoPanic Q) hd (fun ⟨a, w, e⟩ => hq a w e) _ _ _ _ (wpAny_of_held _ _ _ _ (h hS))))
end Go.Proofs.YtpokpiphnggfpaaGreatDoor
end
