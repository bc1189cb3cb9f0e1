/-
  typeOf and Type.
DERIVED: THE SHELF's CONTRACTS AT THIS DUMP, IN PLAIN WORDS (tools/lay-plain.mjs out of 'TryzIsort0.lean', which tools/lay-shelf.mjs wrote): THE SAME DECLARATIONS UNDER THE SAME NAMES: 'import', 'namespace', 'open', 'def', 'theorem' AND NOTHING ELSE: no command of the shelf's: FOR A HAND-IN. Each laying: the table of numbers ('.._ren') and one theorem, a field a fact of the dump's own or the kernel's comparison; each contract: ONE APPLICATION.
DERIVED: THE SHELF's CONTRACTS AT THIS DUMP, IN PLAIN WORDS (tools/lay-plain.mjs out of 'TryzIcomp0.lean', which tools/lay-shelf.mjs wrote): THE SAME DECLARATIONS UNDER THE SAME NAMES: 'import', 'namespace', 'open', 'def', 'theorem' AND NOTHING ELSE: no command of the shelf's: FOR A HAND-IN. Each laying: the table of numbers ('.._ren') and one theorem, a field a fact of the dump's own or the kernel's comparison; each contract: ONE APPLICATION.
Uses.
The document's bind and move.
-/
import Derived.Test.YtofhaokaldpmaaaGreatDoorZ9
import Derived.Shelf.Lays
import Derived.Ground.NamesProg
import Derived.Test.YtofhaokaldpmaaaGreatDoorProg
import Derived.Shelf.Lays2
import Derived.Ground.Names2Prog
import Derived.Shelf.Sort.Plain
import Derived.Shelf.Slices.In.SortNone
import Derived.Shelf.Slices.CompactI
import Derived.Sort.OwnSortedInts
section
namespace Go.Proofs.YtofhaokaldpmaaaGreatDoor
open Go.RowKit Go.Shelf
attribute [local go_sem] Oper.semAt_some

theorem fit_kind {h : Hd} {len : Nat} (hF : fitsB h len = true) : h.k = 1 ∨ (h.k = 2 ∧ 0 ≤ h.n ∧ h.n < 32) ∨ (h.k = 3 ∧ 1 ≤ h.n ∧ h.n ≤ 17 ∧ (4 ≤ h.n ∧ h.n ≤ 9 → len = 2)) ∨ (h.k = 4 ∧ (h.n = 4 ∨ h.n = 5 → len = 1)) := by
  unfold fitsB at hF
  by_cases h1 : h.k = 1
  · exact .inl h1
  rw [if_neg h1] at hF
  by_cases h2 : h.k = 2
  · rw [if_pos h2] at hF
    simp only [Bool.and_eq_true, decide_eq_true_eq] at hF
    exact .inr (.inl ⟨h2, hF.1.1.1.2, hF.1.1.2⟩)
  rw [if_neg h2] at hF
  by_cases h3 : h.k = 3
  · rw [if_pos h3] at hF
    simp only [Bool.and_eq_true, decide_eq_true_eq, beq_iff_eq] at hF
    have ha := hF.1.1.1
    have hb := hF.1.1.2
    unfold arI at ha hb
    refine .inr (.inr (.inl ⟨h3, ?_, ?_, fun hn => ?_⟩))
    · split at ha
      · omega
      · split at ha <;> omega
    · split at ha
      · omega
      · split at ha <;> omega
    · rw [if_neg (by omega), if_pos (by omega)] at hb
      omega
  rw [if_neg h3] at hF
  by_cases h4 : h.k = 4
  · rw [if_pos h4] at hF
    simp only [Bool.and_eq_true] at hF
    refine .inr (.inr (.inr ⟨h4, fun hn => ?_⟩))
    have ha := hF.1.1
    unfold aggB at ha
    rw [if_neg (by omega)] at ha
    simp only [Bool.and_eq_true, decide_eq_true_eq, beq_iff_eq] at ha
    omega
  rw [if_neg h4] at hF
  cases hF
abbrev cbox (A : Option Addr) (n c : Nat) : Obj := .cells #[.slice A n c] 22
set_option maxRecDepth 100000 in
set_option maxHeartbeats 16000000 in
theorem typeOf_of (cols : List Co) (Ac : Option Addr) (c : Nat) (h : Hd) (l : List Ex) (hF : fitsB h l.length = true) (hll : l.length ≤ 1000000) (A : Option Addr) (cap : Nat) (w : World) (hCo : CoAt w Ac cols)
    (hE : ∀ W, Below w.heap.size w W → W.cell? ⟨w.heap.size + 1, 0, none⟩ = some (.slice Ac cols.length c) → Calls Tryz.prog 50 #[.slice A l.length cap, .func (.func 51) #[] #[.pointer (some ⟨w.heap.size + 1, 0, none⟩)]] W (EachT W (tysX cols l))) :
    Calls Tryz.prog 34 #[XV h A l.length cap, .slice Ac cols.length c] w fun e w' => e = .returned (teV (tyX cols (.mk h l))) ∧ Below w.heap.size w w' := by
  have h1 := ba w (xbox h A l.length cap)
  have h2 := bt h1 (ba _ (cbox Ac cols.length c))
  have HX := Lib.hid (((ba (w.alloc (xbox h A l.length cap)) (cbox Ac cols.length c)).block _ (by simp)).trans (MapKept.heap_alloc w (xbox h A l.length cap)).1)
  have hC0 : ((w.alloc (xbox h A l.length cap)).alloc (cbox Ac cols.length c)).cell? ⟨w.heap.size + 1, 0, none⟩ = some (.slice Ac cols.length c) := by
    have := (MapKept.heap_alloc (w.alloc (xbox h A l.length cap)) (cbox Ac cols.length c)).1
    rw [World.size_alloc] at this
    simp only [World.cell?, this]
    rfl
  have HE := Lib.hid (hE _ h2 hC0)
  have HC0 := Lib.hid hC0
  have HCo := Lib.hid (hCo.kept h2)
  have HB := Lib.hid h2
  obtain ⟨O, hO⟩ : ∃ O, tyX cols (.mk h l) = O := ⟨_, rfl⟩
  have HO := Lib.hid hO
  rw [hO]
  have hkk := fit_kind hF
  clear h1 h2 hE hC0 hCo hO hF
  cases hts : tysX cols l with
  | error c' =>
    obtain rfl : O = .error c' := by rw [← HO.out, tyX, hts]
    rw [show teV (.error c') = .tuple #[.int .i64 0, errV c'] from rfl]
    rw [hts] at HE
    clear hts hkk
    go_enter Tryz.func34, Tryz.ntmps34
    go_upto_region 1 with fail
    generalize (w.alloc (.cells #[.int .i64 h.k, .int .i64 h.n, .int .i64 h.vk, .int .i64 h.vn, .string h.vs, .string h.tab, .string h.col, .slice A l.length cap] 35)).alloc (.cells #[.slice Ac cols.length c] 22) = W at HX HE HC0 HCo HB ⊢
    obtain ⟨⟨x0, x1, x2, x3, x4, x5, x6, x7⟩, _⟩ := cell8 HX.out
    go_wp2_with fail
    refine HE.out.mono ?_
    rintro e W1 ⟨rfl, hb⟩
    have HB1 := Lib.hid (bt HB.out hb)
    clear hb
    go_wp2_with fail
    exact bodyPost_ret (v := .tuple #[.int .i64 0, errV c']) (by simp [results, Tryz.results34, go_sem]) rfl ⟨rfl, HB1.out⟩
  | ok ts =>
    have hlen := tysX_len hts
    rw [hts] at HE
    have HTs := Lib.hid hts
    clear hts
    obtain ⟨k, n, vk, vn, vs, tb, cl⟩ := h
    simp only at hkk
    rcases hkk with rfl | ⟨rfl, hn0, hn1⟩ | ⟨rfl, hn0, hn1, hn2⟩ | ⟨rfl, hn2⟩
    · obtain rfl : O = .ok vk := by rw [← HO.out, tyX, HTs.out]; rfl
      rw [show teV (.ok vk) = .tuple #[.int .i64 vk, .nilIface] from rfl]
      clear hlen
      go_enter Tryz.func34, Tryz.ntmps34
      go_upto_region 1 with fail
      generalize (w.alloc (.cells #[.int .i64 1, .int .i64 n, .int .i64 vk, .int .i64 vn, .string vs, .string tb, .string cl, .slice A l.length cap] 35)).alloc (.cells #[.slice Ac cols.length c] 22) = W at HX HE HC0 HCo HB ⊢
      obtain ⟨⟨x0, x1, x2, x3, x4, x5, x6, x7⟩, _⟩ := cell8 HX.out
      go_wp2_with fail
      refine HE.out.mono ?_
      rintro e W1 ⟨A3, cap3, rfl, hi3, hb1⟩
      have HB1 := Lib.hid (bt HB.out hb1)
      have HI3 := Lib.hid hi3
      have HX1 := Lib.hid ((hb1.block _ (Array.getElem?_eq_some_iff.1 HX.out).1).trans HX.out)
      have HC1 := Lib.hid ((hb1.cell (p := ⟨w.heap.size + 1, 0, none⟩) (World.block_lt_of_cell? W _ HC0.out)).trans HC0.out)
      clear x0 x1 x2 x3 x4 x5 x6 x7 hi3 hb1
      obtain ⟨⟨x0, x1, x2, x3, x4, x5, x6, x7⟩, _⟩ := cell8 HX1.out
      have k1 := HC1.out
      go_wp2_with fail
      exact bodyPost_ret (v := .tuple #[.int .i64 vk, .nilIface]) (by simp [results, Tryz.results34, go_sem]) rfl ⟨rfl, HB1.out⟩
    · obtain rfl : O = colT cols n := by rw [← HO.out, tyX, HTs.out]; rfl
      obtain ⟨m, v0, hv, _⟩ := teV_form (colT cols n)
      have HK := Lib.hid (fun W (hW : CoAt W Ac cols) => by have := colType_any n hn0 Ac c cols W hW; rw [hv] at this; exact this)
      rw [hv]
      clear hlen hv hn0 hn1
      go_enter Tryz.func34, Tryz.ntmps34
      go_upto_region 1 with fail
      generalize (w.alloc (.cells #[.int .i64 2, .int .i64 n, .int .i64 vk, .int .i64 vn, .string vs, .string tb, .string cl, .slice A l.length cap] 35)).alloc (.cells #[.slice Ac cols.length c] 22) = W at HX HE HC0 HCo HB ⊢
      obtain ⟨⟨x0, x1, x2, x3, x4, x5, x6, x7⟩, _⟩ := cell8 HX.out
      go_wp2_with fail
      refine HE.out.mono ?_
      rintro e W1 ⟨A3, cap3, rfl, hi3, hb1⟩
      have HB1 := Lib.hid (bt HB.out hb1)
      have HI3 := Lib.hid hi3
      have HX1 := Lib.hid ((hb1.block _ (Array.getElem?_eq_some_iff.1 HX.out).1).trans HX.out)
      have HC1 := Lib.hid ((hb1.cell (p := ⟨w.heap.size + 1, 0, none⟩) (World.block_lt_of_cell? W _ HC0.out)).trans HC0.out)
      clear x0 x1 x2 x3 x4 x5 x6 x7 hi3
      obtain ⟨⟨x0, x1, x2, x3, x4, x5, x6, x7⟩, _⟩ := cell8 HX1.out
      have k1 := HC1.out
      go_wp2_with fail
      refine (HK.out _ (HCo.out.kept hb1)).mono ?_
      rintro e W2 ⟨rfl, rfl⟩
      clear hb1
      go_wp2_with fail
      exact bodyPost_ret (v := .tuple #[.int .i64 m, v0]) (by simp [results, Tryz.results34, go_sem]) rfl ⟨rfl, HB1.out⟩
    · obtain rfl : O = opT n ts := by rw [← HO.out, tyX, HTs.out]; rfl
      obtain ⟨m, v0, hv, _⟩ := teV_form (opT n ts)
      have HK := Lib.hid (fun A3 cap3 W (hW : InAt W A3 ts) => by have := opType_any n A3 cap3 ts W hW (by omega) ⟨hn0, hn1⟩ (by omega); rw [hv] at this; exact this)
      rw [hv]
      clear hlen hv hn0 hn1 hn2
      go_enter Tryz.func34, Tryz.ntmps34
      go_upto_region 1 with fail
      generalize (w.alloc (.cells #[.int .i64 3, .int .i64 n, .int .i64 vk, .int .i64 vn, .string vs, .string tb, .string cl, .slice A l.length cap] 35)).alloc (.cells #[.slice Ac cols.length c] 22) = W at HX HE HC0 HCo HB ⊢
      obtain ⟨⟨x0, x1, x2, x3, x4, x5, x6, x7⟩, _⟩ := cell8 HX.out
      go_wp2_with fail
      refine HE.out.mono ?_
      rintro e W1 ⟨A3, cap3, rfl, hi3, hb1⟩
      have HB1 := Lib.hid (bt HB.out hb1)
      have HI3 := Lib.hid hi3
      have HX1 := Lib.hid ((hb1.block _ (Array.getElem?_eq_some_iff.1 HX.out).1).trans HX.out)
      have HC1 := Lib.hid ((hb1.cell (p := ⟨w.heap.size + 1, 0, none⟩) (World.block_lt_of_cell? W _ HC0.out)).trans HC0.out)
      clear x0 x1 x2 x3 x4 x5 x6 x7 hi3 hb1
      obtain ⟨⟨x0, x1, x2, x3, x4, x5, x6, x7⟩, _⟩ := cell8 HX1.out
      have k1 := HC1.out
      go_wp2_with fail
      refine (HK.out _ _ _ HI3.out).mono ?_
      rintro e W2 ⟨rfl, hb⟩
      have HB2 := Lib.hid (bt HB1.out hb)
      clear hb
      go_wp2_with fail
      exact bodyPost_ret (v := .tuple #[.int .i64 m, v0]) (by simp [results, Tryz.results34, go_sem]) rfl ⟨rfl, HB2.out⟩
    · obtain rfl : O = aggT n ts := by rw [← HO.out, tyX, HTs.out]; rfl
      obtain ⟨m, v0, hv, _⟩ := teV_form (aggT n ts)
      have HK := Lib.hid (fun A3 cap3 W (hW : InAt W A3 ts) => by have := aggType_any n A3 cap3 ts W hW (by omega) (by omega); rw [hv] at this; exact this)
      rw [hv]
      clear hlen hv hn2
      go_enter Tryz.func34, Tryz.ntmps34
      go_upto_region 1 with fail
      generalize (w.alloc (.cells #[.int .i64 4, .int .i64 n, .int .i64 vk, .int .i64 vn, .string vs, .string tb, .string cl, .slice A l.length cap] 35)).alloc (.cells #[.slice Ac cols.length c] 22) = W at HX HE HC0 HCo HB ⊢
      obtain ⟨⟨x0, x1, x2, x3, x4, x5, x6, x7⟩, _⟩ := cell8 HX.out
      go_wp2_with fail
      refine HE.out.mono ?_
      rintro e W1 ⟨A3, cap3, rfl, hi3, hb1⟩
      have HB1 := Lib.hid (bt HB.out hb1)
      have HI3 := Lib.hid hi3
      have HX1 := Lib.hid ((hb1.block _ (Array.getElem?_eq_some_iff.1 HX.out).1).trans HX.out)
      have HC1 := Lib.hid ((hb1.cell (p := ⟨w.heap.size + 1, 0, none⟩) (World.block_lt_of_cell? W _ HC0.out)).trans HC0.out)
      clear x0 x1 x2 x3 x4 x5 x6 x7 hi3 hb1
      obtain ⟨⟨x0, x1, x2, x3, x4, x5, x6, x7⟩, _⟩ := cell8 HX1.out
      have k1 := HC1.out
      go_wp2_with fail
      refine (HK.out _ _ _ HI3.out).mono ?_
      rintro e W2 ⟨rfl, hb⟩
      have HB2 := Lib.hid (bt HB1.out hb)
      clear hb
      go_wp2_with fail
      exact bodyPost_ret (v := .tuple #[.int .i64 m, v0]) (by simp [results, Tryz.results34, go_sem]) rfl ⟨rfl, HB2.out⟩
set_option maxHeartbeats 2000000 in
theorem typeOf1_of (cols : List Co) (Ac : Option Addr) (c : Nat) (p : Nat) (h : Hd) (l : List Ex) (A : Option Addr) (cap : Nat) (w : World) (hp : w.cell? ⟨p, 0, none⟩ = some (.slice Ac cols.length c))
    (hE : ∀ W, Below w.heap.size w W → Calls Tryz.prog 34 #[XV h A l.length cap, .slice Ac cols.length c] W fun e w' => e = .returned (teV (tyX cols (.mk h l))) ∧ Below W.heap.size W w') :
    Calls Tryz.prog 51 #[XV h A l.length cap, .pointer (some ⟨p, 0, none⟩)] w fun e w' => e = .returned (teV (tyX cols (.mk h l))) ∧ Below w.heap.size w w' := by
  have hb := ba w (xbox h A l.length cap)
  have HX := Lib.hid (MapKept.heap_alloc w (xbox h A l.length cap)).1
  have k0 := (hb.cell (p := ⟨p, 0, none⟩) (World.block_lt_of_cell? w _ hp)).trans hp
  have HE := Lib.hid (hE _ hb)
  have HB := Lib.hid hb
  obtain ⟨⟨x0, x1, x2, x3, x4, x5, x6, x7⟩, _⟩ := cell8 HX.out
  obtain ⟨m, v0, hv, _⟩ := teV_form (tyX cols (.mk h l))
  rw [hv] at HE ⊢
  clear hb hp hE hv
  go_enter Tryz.func51, Tryz.ntmps51
  go_wp2_with fail
  refine HE.out.mono ?_
  rintro e W1 ⟨rfl, hb⟩
  have HB1 := Lib.hid (bt HB.out hb)
  clear hb
  go_wp2_with fail
  exact bodyPost_ret (v := .tuple #[.int .i64 m, v0]) (by simp [results, Tryz.results51, go_sem]) rfl ⟨rfl, HB1.out⟩
theorem typeOf_n (cols : List Co) (Ac : Option Addr) (c : Nat) : ∀ (N : Nat) (h : Hd) (l : List Ex), cnt (.mk h l) ≤ N → N ≤ 1000000 → FitX (.mk h l) → ∀ (w : World) (A : Option Addr) (cap : Nat), CoAt w Ac cols → XsAt w.heap.size w l A →
    Calls Tryz.prog 34 #[XV h A l.length cap, .slice Ac cols.length c] w fun e w' => e = .returned (teV (tyX cols (.mk h l))) ∧ Below w.heap.size w w' := by
  intro N
  induction N with
  | zero => intro h l hc; have := cnt_pos (.mk h l); omega
  | succ N ih =>
    intro h l hc hN hF w A cap hCo hX
    rw [FitX] at hF
    rw [cnt_mk] at hc
    have hlen := cntL_len l
    refine typeOf_of cols Ac c h l hF.1 (by omega) A cap w hCo fun W hb hp => ?_
    refine eachI_of cols (w.heap.size + 1) l (by omega) W A cap (XsAt.next hX hb) fun i h2 l2 hi W1 hb1 A2 cap2 hx2 _ => ?_
    have hc2 := cntL_mem hi
    have hp1 := (hb1.cell (p := ⟨w.heap.size + 1, 0, none⟩) (World.block_lt_of_cell? W _ hp)).trans hp
    exact typeOf1_of cols Ac c (w.heap.size + 1) h2 l2 A2 cap2 W1 hp1 fun W2 hb2 => ih h2 l2 (by omega) (by omega) (FitXs_at hF.2 hi) W2 A2 cap2 (hCo.kept (bt hb (bt hb1 hb2))) (XsAt.next hx2 hb2)
/-- What Type comes to. -/
def typA (cols : List Co) (x : Ex) : Int × Int := if okX x = true then (match tyX cols x with | .ok t => (t, 0) | .error c => (0, c)) else (0, 100)
set_option maxRecDepth 100000 in
set_option maxHeartbeats 8000000 in
theorem type_any (cols : List Co) (Ac : Option Addr) (c : Nat) (h : Hd) (l : List Ex) (A : Option Addr) (cap : Nat) (w : World) (hX : XsAt w.heap.size w l A) (hcap : l.length ≤ cap) (hsm : AllSm (.mk h l)) (hc : cnt (.mk h l) ≤ 999999) (hT : Tabs w) (hE : ErrT w) (hCo : CoAt w Ac cols) :
    Calls Tryz.prog 15 #[XV h A l.length cap, .slice Ac cols.length c] w fun e w' => e = .returned (.tuple #[.int .i64 (typA cols (.mk h l)).1, .int .i64 (typA cols (.mk h l)).2]) ∧ Below w.heap.size w w' := by
  have h1 := ba w (xbox h A l.length cap)
  have HX := Lib.hid (MapKept.heap_alloc w (xbox h A l.length cap)).1
  have hck := xcheck_any h l A cap _ (XsAt.next hX h1) hcap hsm hc (hT.kept h1)
  rw [chk_okX] at hck
  have HB := Lib.hid h1
  have HEr := Lib.hid hE
  have HTy := Lib.hid (fun (ho : okX (.mk h l) = true) W (hb : Below w.heap.size w W) => typeOf_n cols Ac c 999999 h l hc (by omega) (good_fit _ 1 false (by simp only [okX, Bool.and_eq_true] at ho; exact ho.1)) W A cap (hCo.kept hb) (XsAt.next hX hb))
  obtain ⟨q, hq⟩ : ∃ q, typA cols (.mk h l) = q := ⟨_, rfl⟩
  have HQ := Lib.hid hq
  rw [hq]
  clear h1 hX hsm hc hT hE hCo hq
  cases hok : okX (.mk h l)
  · rw [hok] at hck
    have HCk := Lib.hid (show Calls Tryz.prog 33 #[XV h A l.length cap] (w.alloc (xbox h A l.length cap)) fun e w' => e = .returned (.int .i64 100) ∧ Below (w.alloc (xbox h A l.length cap)).heap.size (w.alloc (xbox h A l.length cap)) w' from hck)
    obtain rfl : q = (0, 100) := by rw [← HQ.out, typA, hok]; rfl
    clear hck hok HTy
    go_enter Tryz.func15, Tryz.ntmps15
    go_upto_region 1 with fail
    generalize w.alloc (.cells #[.int .i64 h.k, .int .i64 h.n, .int .i64 h.vk, .int .i64 h.vn, .string h.vs, .string h.tab, .string h.col, .slice A l.length cap] 35) = W at HX HB HCk ⊢
    obtain ⟨⟨x0, x1, x2, x3, x4, x5, x6, x7⟩, _⟩ := cell8 HX.out
    go_wp2_with fail
    refine HCk.out.mono ?_
    rintro e W1 ⟨rfl, hb⟩
    have HB1 := Lib.hid (bt HB.out hb)
    clear hb
    go_wp2_with fail
    exact bodyPost_ret (v := .tuple #[.int .i64 0, .int .i64 100]) (by simp [results, Tryz.results15, go_sem]) rfl ⟨rfl, HB1.out⟩
  · rw [hok] at hck
    have HCk := Lib.hid (show Calls Tryz.prog 33 #[XV h A l.length cap] (w.alloc (xbox h A l.length cap)) fun e w' => e = .returned (.int .i64 0) ∧ Below (w.alloc (xbox h A l.length cap)).heap.size (w.alloc (xbox h A l.length cap)) w' from hck)
    have HTy2 := Lib.hid (HTy.out hok)
    have HQ2 := Lib.hid (show (match tyX cols (.mk h l) with | .ok t => (t, 0) | .error c => (0, c)) = q by rw [← HQ.out, typA, if_pos hok])
    clear hck hok HTy HQ
    cases hty : tyX cols (.mk h l) with
    | ok t =>
      rw [hty] at HQ2 HTy2
      obtain rfl : (t, 0) = q := HQ2.out
      rw [show teV (.ok t) = .tuple #[.int .i64 t, .nilIface] from rfl] at HTy2
      clear hty HQ2
      go_enter Tryz.func15, Tryz.ntmps15
      go_upto_region 1 with fail
      generalize w.alloc (.cells #[.int .i64 h.k, .int .i64 h.n, .int .i64 h.vk, .int .i64 h.vn, .string h.vs, .string h.tab, .string h.col, .slice A l.length cap] 35) = W at HX HB HCk ⊢
      obtain ⟨⟨x0, x1, x2, x3, x4, x5, x6, x7⟩, _⟩ := cell8 HX.out
      go_wp2_with fail
      refine HCk.out.mono ?_
      rintro e W1 ⟨rfl, hb⟩
      have HB1 := Lib.hid (bt HB.out hb)
      have HX1 := Lib.hid ((hb.block _ (Array.getElem?_eq_some_iff.1 HX.out).1).trans HX.out)
      clear hb x0 x1 x2 x3 x4 x5 x6 x7
      obtain ⟨⟨x0, x1, x2, x3, x4, x5, x6, x7⟩, _⟩ := cell8 HX1.out
      go_wp2_with fail
      refine (HTy2.out _ HB1.out).mono ?_
      rintro e W2 ⟨rfl, hb⟩
      have HB2 := Lib.hid (bt HB1.out hb)
      clear hb
      go_wp2_with fail
      refine (number_nil _).mono ?_
      rintro e W3 ⟨rfl, hb3⟩
      have HB3 := Lib.hid (bt HB2.out hb3)
      clear hb3
      go_wp2_with fail
      exact bodyPost_ret (v := .tuple #[.int .i64 t, .int .i64 0]) (by simp [results, Tryz.results15, go_sem]) rfl ⟨rfl, HB3.out⟩
    | error c' =>
      rw [hty] at HQ2 HTy2
      obtain rfl : (0, c') = q := HQ2.out
      rw [show teV (.error c') = .tuple #[.int .i64 0, errV c'] from rfl] at HTy2
      clear hty HQ2
      go_enter Tryz.func15, Tryz.ntmps15
      go_upto_region 1 with fail
      generalize w.alloc (.cells #[.int .i64 h.k, .int .i64 h.n, .int .i64 h.vk, .int .i64 h.vn, .string h.vs, .string h.tab, .string h.col, .slice A l.length cap] 35) = W at HX HB HCk ⊢
      obtain ⟨⟨x0, x1, x2, x3, x4, x5, x6, x7⟩, _⟩ := cell8 HX.out
      go_wp2_with fail
      refine HCk.out.mono ?_
      rintro e W1 ⟨rfl, hb⟩
      have HB1 := Lib.hid (bt HB.out hb)
      have HX1 := Lib.hid ((hb.block _ (Array.getElem?_eq_some_iff.1 HX.out).1).trans HX.out)
      clear hb x0 x1 x2 x3 x4 x5 x6 x7
      obtain ⟨⟨x0, x1, x2, x3, x4, x5, x6, x7⟩, _⟩ := cell8 HX1.out
      go_wp2_with fail
      refine (HTy2.out _ HB1.out).mono ?_
      rintro e W2 ⟨rfl, hb⟩
      have HB2 := Lib.hid (bt HB1.out hb)
      clear hb
      go_wp2_with fail
      refine (number_err c' _ (HEr.out.kept HB2.out)).mono ?_
      rintro e W3 ⟨rfl, hb3⟩
      have HB3 := Lib.hid (bt HB2.out hb3)
      clear hb3
      go_wp2_with fail
      exact bodyPost_ret (v := .tuple #[.int .i64 0, .int .i64 c']) (by simp [results, Tryz.results15, go_sem]) rfl ⟨rfl, HB3.out⟩
end Go.Proofs.YtofhaokaldpmaaaGreatDoor
end
section
namespace Go.Proofs
open Go.Shelf
def Tryz.isort_ren : Go.Shelf.Ren := ⟨fun | 189 => 41 | 125 => 59 | 257 => 58 | 128 => 82 | 129 => 83 | 294 => 73 | 295 => 74 | 296 => 75 | 297 => 76 | 298 => 77 | 299 => 78 | 216 => 79 | 300 => 80 | 301 => 81 | 328 => 100 | 329 => 101 | 330 => 102 | 331 => 103 | 332 => 104 | 215 => 105 | 343 => 112 | n => n, fun | 28 => 42 | 3 => 3 | 46 => 92 | 0 => 0 | 51 => 123 | 53 => 125 | 4 => 4 | 183 => 117 | 182 => 116 | 131 => 28 | 5 => 5 | 9 => 9 | 218 => 148 | 222 => 59 | 228 => 156 | 229 => 157 | n => n, fun | n => n⟩
theorem Tryz.isort : Go.Proofs.Lays.n189 Tryz.prog Tryz.isort_ren := {
  mixed := by kernel_rfl
  f125 := Tryz.func59.trans (congrArg some (by kernel_rfl))
  f128 := Tryz.func82.trans (congrArg some (by kernel_rfl))
  f129 := Tryz.func83.trans (congrArg some (by kernel_rfl))
  f189 := Tryz.func41.trans (congrArg some (by kernel_rfl))
  f215 := Tryz.func105.trans (congrArg some (by kernel_rfl))
  f216 := Tryz.func79.trans (congrArg some (by kernel_rfl))
  f257 := Tryz.func58.trans (congrArg some (by kernel_rfl))
  f294 := Tryz.func73.trans (congrArg some (by kernel_rfl))
  f295 := Tryz.func74.trans (congrArg some (by kernel_rfl))
  f296 := Tryz.func75.trans (congrArg some (by kernel_rfl))
  f297 := Tryz.func76.trans (congrArg some (by kernel_rfl))
  f298 := Tryz.func77.trans (congrArg some (by kernel_rfl))
  f299 := Tryz.func78.trans (congrArg some (by kernel_rfl))
  f300 := Tryz.func80.trans (congrArg some (by kernel_rfl))
  f301 := Tryz.func81.trans (congrArg some (by kernel_rfl))
  f328 := Tryz.func100.trans (congrArg some (by kernel_rfl))
  f329 := Tryz.func101.trans (congrArg some (by kernel_rfl))
  f330 := Tryz.func102.trans (congrArg some (by kernel_rfl))
  f331 := Tryz.func103.trans (congrArg some (by kernel_rfl))
  f332 := Tryz.func104.trans (congrArg some (by kernel_rfl))
  f343 := Tryz.func112.trans (congrArg some (by kernel_rfl))
  t0 := Tryz.underlying0
  a0 := Tryz.isAgg0
  z0 := Tryz.sizeOf0
  v0 := Tryz.zeroValue0
  t3 := Tryz.underlying3
  a3 := Tryz.isAgg3
  z3 := Tryz.sizeOf3
  v3 := Tryz.zeroValue3
  t4 := Tryz.underlying4
  a4 := Tryz.isAgg4
  z4 := Tryz.sizeOf4
  v4 := Tryz.zeroValue4
  t5 := Tryz.underlying5
  a5 := Tryz.isAgg5
  z5 := Tryz.sizeOf5
  v5 := Tryz.zeroValue5
  t9 := Tryz.underlying9
  a9 := Tryz.isAgg9
  z9 := Tryz.sizeOf9
  v9 := Tryz.zeroValue9
  t28 := Tryz.underlying42
  a28 := Tryz.isAgg42
  z28 := Tryz.sizeOf42
  v28 := Tryz.zeroValue42
  t46 := Tryz.underlying92
  a46 := Tryz.isAgg92
  z46 := Tryz.sizeOf92
  v46 := Tryz.zeroValue92
  t51 := Tryz.underlying123
  a51 := Tryz.isAgg123
  z51 := Tryz.sizeOf123
  v51 := Tryz.zeroValue123
  t53 := Tryz.underlying125
  a53 := Tryz.isAgg125
  z53 := Tryz.sizeOf125
  v53 := Tryz.zeroValue125
  t131 := Tryz.underlying28
  a131 := Tryz.isAgg28
  z131 := Tryz.sizeOf28
  v131 := Tryz.zeroValue28
  t182 := Tryz.underlying116
  a182 := Tryz.isAgg116
  z182 := Tryz.sizeOf116
  v182 := Tryz.zeroValue116
  t183 := Tryz.underlying117
  a183 := Tryz.isAgg117
  z183 := Tryz.sizeOf117
  v183 := Tryz.zeroValue117
  t218 := Tryz.underlying148
  a218 := Tryz.isAgg148
  z218 := Tryz.sizeOf148
  v218 := Tryz.zeroValue148
  t222 := Tryz.underlying59
  a222 := Tryz.isAgg59
  z222 := Tryz.sizeOf59
  v222 := Tryz.zeroValue59
  t228 := Tryz.underlying156
  a228 := Tryz.isAgg156
  z228 := Tryz.sizeOf156
  v228 := Tryz.zeroValue156
  t229 := Tryz.underlying157
  a229 := Tryz.isAgg157
  z229 := Tryz.sizeOf157
  v229 := Tryz.zeroValue157 }
end Go.Proofs
end
section
namespace Go.Proofs
open Go.Shelf
def Tryz.icomp_ren : Go.Shelf.Ren := ⟨fun | 20 => 42 | n => n, fun | 22 => 42 | 3 => 3 | 4 => 4 | 0 => 0 | n => n, fun | n => n⟩
theorem Tryz.icomp : Go.Proofs.Lays2.n20 Tryz.prog Tryz.icomp_ren := {
  mixed := by kernel_rfl
  f20 := Tryz.func42.trans (congrArg some (by kernel_rfl))
  t0 := Tryz.underlying0
  a0 := Tryz.isAgg0
  z0 := Tryz.sizeOf0
  v0 := Tryz.zeroValue0
  t3 := Tryz.underlying3
  a3 := Tryz.isAgg3
  z3 := Tryz.sizeOf3
  v3 := Tryz.zeroValue3
  t4 := Tryz.underlying4
  a4 := Tryz.isAgg4
  z4 := Tryz.sizeOf4
  v4 := Tryz.zeroValue4
  t22 := Tryz.underlying42
  a22 := Tryz.isAgg42
  z22 := Tryz.sizeOf42
  v22 := Tryz.zeroValue42
  i3 := by kernel_rfl }
end Go.Proofs
end
section
namespace Go.Proofs.YtofhaokaldpmaaaGreatDoor
open Go.RowKit Go.Shelf Go.Sort
attribute [local go_sem] Oper.semAt_some

theorem lt_heap {w : World} {k : Nat} {o : Obj} (h : w.heap[k]? = some o) : k < w.heap.size := by
  rcases Nat.lt_or_ge k w.heap.size with hl | hg
  · exact hl
  · rw [Array.getElem?_eq_none hg] at h; cases h
theorem sortT_any (base : Nat) (v : Value) (xs : List Int) (w : World) (h : w.ownsRow base 3 1 v xs.length (xs.map (Value.int .i64))) (hl : xs.length ≤ 2000000) :
    Calls Tryz.prog 41 #[v] w fun e w' => e = .returned (.tuple #[]) ∧ (∃ ys : List Int, ys.Perm xs ∧ ys.Pairwise (fun x y => x ≤ y) ∧ w'.ownsRow base 3 1 v ys.length (ys.map (Value.int .i64))) ∧ w.grownBy w' v.ownBlock := by
  rcases h.2 with ⟨rfl, h0⟩ | ⟨g, cap, cur, rfl, hb, hg, hn, hcap, hsz, ht⟩
  · have hx : xs = [] := List.eq_nil_of_length_eq_zero h0
    subst hx
    refine (Any.slices_Sort_int_none Tryz.isort none 0 w).mono ?_
    rintro e w' ⟨rfl, rfl⟩
    exact ⟨rfl, ⟨[], List.Perm.refl _, List.Pairwise.nil, h⟩, ⟨rfl, rfl, rfl, Nat.le_refl _, fun _ _ _ => rfl⟩⟩
  · rw [Nat.mul_one] at ht
    refine (Any.slices_Sort_int Tryz.isort g 0 cap xs w (holds_of_blockI hg ht) (lt_heap hg) (by omega)).mono ?_
    rintro e w' ⟨rfl, n, os, rfl⟩
    refine ⟨rfl, ⟨xs.mergeSort fun x y => decide (x ≤ y), List.mergeSort_perm _ _, (List.pairwise_mergeSort (le := fun x y : Int => decide (x ≤ y)) (fun a b c h1 h2 => by simp at h1 h2 ⊢; omega) (fun a b => by simp; omega) xs).imp (fun h => by simpa using h), ?_⟩, grownBy_sortedI _⟩
    rw [show (xs.mergeSort fun x y => decide (x ≤ y)).length = xs.length from List.length_mergeSort _]
    exact ownsRow_sortedI (List.length_mergeSort _) hb hg hn hcap hsz
/-- What is left of a rising list. -/
theorem comp_up (zs : List Int) (hs : zs.Pairwise (fun x y => x ≤ y)) : ∀ m, m ≤ zs.length → ((Lib.compactUpTo zs.toArray m).Pairwise (fun x y => x < y) ∧ ∀ x, x ∈ Lib.compactUpTo zs.toArray m ↔ ∃ j, j < m ∧ zs.toArray[j]! = x) := by
  have mono : ∀ i j, i ≤ j → j < zs.length → zs.toArray[i]! ≤ zs.toArray[j]! := by
    intro i j hij hj
    rw [getElem!_pos _ i (by simpa using Nat.lt_of_le_of_lt hij hj), getElem!_pos _ j (by simpa using hj)]
    rcases Nat.lt_or_eq_of_le hij with h | rfl
    · simpa using List.pairwise_iff_getElem.1 hs i j (by omega) hj h
    · exact Int.le_refl _
  intro m
  induction m with
  | zero => intro _; exact ⟨by simp [Lib.compactUpTo], by simp [Lib.compactUpTo]⟩
  | succ m ih =>
    intro hm
    obtain ⟨h1, h2⟩ := ih (by omega)
    rw [Lib.compactUpTo_succ]
    cases hk : Lib.keeps zs.toArray m with
    | true =>
      simp only [if_true]
      constructor
      · rw [List.pairwise_append]
        refine ⟨h1, by simp, fun x hx y hy => ?_⟩
        simp only [List.mem_singleton] at hy
        subst hy
        obtain ⟨j, hj, rfl⟩ := (h2 x).1 hx
        have ha := mono j (m - 1) (by omega) (by omega)
        have hb := mono (m - 1) m (by omega) (by omega)
        have hc : zs.toArray[m]! ≠ zs.toArray[m - 1]! := by
          simp only [Lib.keeps, decide_eq_true_eq] at hk
          rcases hk with rfl | hk
          · omega
          · exact hk
        omega
      · intro x
        rw [List.mem_append, h2, List.mem_singleton]
        constructor
        · rintro (⟨j, hj, rfl⟩ | rfl)
          · exact ⟨j, by omega, rfl⟩
          · exact ⟨m, by omega, rfl⟩
        · rintro ⟨j, hj, rfl⟩
          by_cases e : j = m
          · exact .inr (by rw [e])
          · exact .inl ⟨j, by omega, rfl⟩
    | false =>
      simp only [Bool.false_eq_true, if_false, List.append_nil]
      refine ⟨h1, fun x => ?_⟩
      rw [h2]
      simp only [Lib.keeps, decide_eq_false_iff_not, not_or, Classical.not_not] at hk
      constructor
      · rintro ⟨j, hj, rfl⟩
        exact ⟨j, by omega, rfl⟩
      · rintro ⟨j, hj, rfl⟩
        by_cases e : j = m
        · exact ⟨m - 1, by omega, by rw [e, hk.2]⟩
        · exact ⟨j, by omega, rfl⟩
theorem comp_mem (zs : List Int) (hs : zs.Pairwise (fun x y => x ≤ y)) : (Lib.compact zs).Pairwise (fun x y => x < y) ∧ ∀ x, x ∈ Lib.compact zs ↔ x ∈ zs := by
  obtain ⟨h1, h2⟩ := comp_up zs hs zs.length (Nat.le_refl _)
  refine ⟨h1, fun x => (h2 x).trans ?_⟩
  rw [List.mem_iff_getElem]
  constructor
  · rintro ⟨j, hj, rfl⟩
    exact ⟨j, hj, by rw [getElem!_pos _ j (by simpa using hj)]; simp⟩
  · rintro ⟨j, hj, rfl⟩
    exact ⟨j, hj, by rw [getElem!_pos _ j (by simpa using hj)]; simp⟩
theorem up_eq : ∀ {a b : List Int}, a.Pairwise (fun x y => x < y) → b.Pairwise (fun x y => x < y) → (∀ x, x ∈ a ↔ x ∈ b) → a = b
  | [], [], _, _, _ => rfl
  | [], y :: _, _, _, h => absurd ((h y).2 (List.mem_cons_self ..)) (by simp)
  | x :: _, [], _, _, h => absurd ((h x).1 (List.mem_cons_self ..)) (by simp)
  | x :: a, y :: b, ha, hb, h => by
    rw [List.pairwise_cons] at ha hb
    have hxy : x = y := by
      rcases List.mem_cons.1 ((h x).1 (List.mem_cons_self ..)) with e | e
      · exact e
      · rcases List.mem_cons.1 ((h y).2 (List.mem_cons_self ..)) with e' | e'
        · exact e'.symm
        · have := hb.1 _ e; have := ha.1 _ e'; omega
    subst hxy
    rw [up_eq ha.2 hb.2 fun z => ?_]
    constructor
    · intro hz
      rcases List.mem_cons.1 ((h z).1 (List.mem_cons_of_mem _ hz)) with e | e
      · have := ha.1 _ hz; omega
      · exact e
    · intro hz
      rcases List.mem_cons.1 ((h z).2 (List.mem_cons_of_mem _ hz)) with e | e
      · have := hb.1 _ hz; omega
      · exact e
theorem compT_any (base : Nat) (v : Value) (xs : List Int) (w : World) (h : w.ownsRow base 3 1 v xs.length (xs.map (Value.int .i64))) (hl : xs.length ≤ 2000000) :
    Calls Tryz.prog 42 #[v] w fun e w' => (∃ A cap, e = .returned (.slice A (Lib.compact xs).length cap) ∧ InAt w' A (Lib.compact xs)) ∧ w.grownBy w' v.ownBlock := by
  rcases h.2 with ⟨rfl, h0⟩ | ⟨g, cap, cur, rfl, hb, hg, hn, hcap, hsz, ht⟩
  · have hx : xs = [] := List.eq_nil_of_length_eq_zero h0
    subst hx
    refine (Any.slices_Compact_int_empty Tryz.icomp none 0 w).mono ?_
    rintro e w' ⟨rfl, rfl⟩
    exact ⟨⟨none, 0, rfl, .inl rfl⟩, ⟨rfl, rfl, rfl, Nat.le_refl _, fun _ _ _ => rfl⟩⟩
  · rw [Nat.mul_one] at ht
    refine (Any.slices_Compact_int Tryz.icomp g 0 cap xs w (holds_of_blockI hg ht) (by omega) hn).mono ?_
    rintro e w' ⟨rfl, n, rfl⟩
    have hcl : (Lib.compact xs).length ≤ xs.length := by
      have := List.length_filter_le (Lib.keeps xs.toArray) (List.range xs.length)
      unfold Lib.compact Lib.compactUpTo
      rw [List.length_map]
      simpa using this
    have hlen : (Lib.compact xs ++ List.replicate (xs.length - (Lib.compact xs).length) 0).length = xs.length := by simp; omega
    have hown := ownsRow_sortedI (n := n) (os := #[]) (ts := Lib.compact xs ++ List.replicate (xs.length - (Lib.compact xs).length) 0) hlen hb hg hn hcap hsz
    have hgr := grownBy_sortedI (w := w) (g := g) (n := n) (os := #[]) (Lib.compact xs ++ List.replicate (xs.length - (Lib.compact xs).length) 0).toArray
    have hgw : ∀ W : World, grow W #[] = W := fun W => by simp [grow]
    rw [hgw] at hown hgr
    refine ⟨⟨_, _, rfl, .inr ⟨g, 0, rfl, Nat.lt_of_lt_of_le (lt_heap hg) hgr.size, fun i u hu => ?_⟩⟩, hgr⟩
    have hi := (List.getElem?_eq_some_iff.1 hu).1
    obtain ⟨A2, cap2, e2, _, hx⟩ := inAt_own (xs := Lib.compact xs ++ List.replicate (xs.length - (Lib.compact xs).length) 0) (by rw [hlen]; exact hown)
    rcases hx with hx | ⟨b, off, hA, _, hc⟩
    · rw [hx] at hlen; simp at hlen; omega
    · obtain ⟨rfl, _, _⟩ := Value.slice.inj e2
      obtain ⟨rfl, rfl⟩ : g = b ∧ 0 = off := by simpa using hA
      exact hc i u (by rw [List.getElem?_append_left hi]; exact hu)
/-- The places of an expression's columns, as they stand. -/
def usesL (x : Ex) : List Int := (if okX x = true then kndX 2 x else []).map fun y => y.hd.n
def UsesE (w : World) (x : Ex) (e : Ending) (w' : World) : Prop := ∃ A cap ys, e = .returned (.slice A ys.length cap) ∧ InAt w' A ys ∧ ys.Pairwise (fun a b => a < b) ∧ (∀ n, n ∈ ys ↔ n ∈ usesL x) ∧ Below w.heap.size w w'
theorem knd_cnt (k : Int) : ∀ x : Ex, (kndX k x).length ≤ cnt x := by
  intro x
  have h := knd_preo k x 1
  rw [← h]
  refine Nat.le_trans (List.length_filter_le _ _) ?_
  rw [List.length_map]
  exact Nat.le_of_eq (preo_len x 1)
set_option maxRecDepth 100000 in
set_option maxHeartbeats 8000000 in
theorem uses_any (h : Hd) (l : List Ex) (A : Option Addr) (cap : Nat) (w : World) (hX : XsAt w.heap.size w l A) (hcap : l.length ≤ cap) (hsm : AllSm (.mk h l)) (hc : cnt (.mk h l) ≤ 999999) (hT : Tabs w) :
    Calls Tryz.prog 21 #[XV h A l.length cap] w (UsesE w (.mk h l)) := by
  obtain ⟨i0, hi, hz0, hz1, hz2⟩ := info_parts info_intT
  have h1 := ba w (xbox h A l.length cap)
  have HX := Lib.hid (MapKept.heap_alloc w (xbox h A l.length cap)).1
  have hck := ev_columns (x := .mk h l) (v := XV h A l.length cap) (w := w.alloc (xbox h A l.length cap)) ⟨A, cap, rfl, hcap, XsAt.next hX h1⟩ hsm hc (hT.kept h1)
  have HB := Lib.hid h1
  obtain ⟨L, hL⟩ : ∃ L, (if okX (.mk h l) = true then kndX 2 (.mk h l) else []) = L := ⟨_, rfl⟩
  have hLl : L.length ≤ 999999 := by
    rw [← hL]
    split
    · exact Nat.le_trans (knd_cnt 2 _) hc
    · simp
  have HL := Lib.hid (show usesL (.mk h l) = L.map fun y => y.hd.n by rw [usesL, hL])
  rw [hL] at hck
  have HCk := Lib.hid hck
  clear h1 hX hsm hc hT hck hL
  go_enter Tryz.func21, Tryz.ntmps21
  go_upto_region 1 with fail
  generalize w.alloc (.cells #[.int .i64 h.k, .int .i64 h.n, .int .i64 h.vk, .int .i64 h.vn, .string h.vs, .string h.tab, .string h.col, .slice A l.length cap] 35) = W at HX HB HCk ⊢
  obtain ⟨⟨x0, x1, x2, x3, x4, x5, x6, x7⟩, _⟩ := cell8 HX.out
  go_wp2_with fail
  refine HCk.out.mono ?_
  rintro e W1 ⟨u, rfl, hb, A1, cap1, rfl, hle1, hx1⟩
  have HB1 := Lib.hid (bt HB.out hb)
  have HXs := Lib.hid hx1
  clear hb hx1 x0 x1 x2 x3 x4 x5 x6 x7 HX HB HCk hle1 hcap
  go_wp2_with fail
  go_loopw [9, 3] (fun i v W2 => ∃ (k : Nat) (ts : List Int), k ≤ L.length ∧ i = .int .i64 k ∧ Hid ((L.take k).map (fun y => y.hd.n) = ts) ∧ Hid (Iown W1 W2 v ts)) (fun i _ _ => L.length - (intOf i).toNat)
  case atStart => exact ⟨0, [], Nat.zero_le _, rfl, Lib.hid rfl, Lib.hid ⟨World.ownsRow_nil _ _ _ _, Below.refl _ _⟩⟩
  case round =>
    obtain ⟨k, ts, hk, rfl, HQ, HW⟩ := hrel
    have hlk : ts.length = k := by rw [← HQ.out, List.length_map, List.length_take]; omega
    by_cases hkn : k < L.length
    · obtain ⟨x, hx⟩ : ∃ x, L[k]? = some x := ⟨_, List.getElem?_eq_getElem hkn⟩
      obtain ⟨h2, l2⟩ := x
      have hT : (L.take (k + 1)).map (fun y => y.hd.n) = ts ++ [h2.n] := by rw [← HQ.out, List.take_add_one, hx]; simp [Ex.hd]
      have HT := Lib.hid hT
      obtain ⟨g, off, A', cap', rfl, hg, hX2, hle', hl'⟩ := HXs.out.at hx
      have hXr := hX2.of (HW.out.bel.block g hg)
      obtain ⟨c0, c1, c2, c3, c4, c5, c6, c7⟩ := hXr
      have hba := ba wr (xbox h2 A' l2.length cap')
      have HXb := Lib.hid (MapKept.heap_alloc wr (xbox h2 A' l2.length cap')).1
      have H3 := Lib.hid (HW.out.below hba)
      clear hX2 hl' hx hg hT hba hle' HQ
      go_upto_region 5 with fail
      generalize wr.alloc (.cells #[.int .i64 h2.k, .int .i64 h2.n, .int .i64 h2.vk, .int .i64 h2.vn, .string h2.vs, .string h2.tab, .string h2.col, .slice A' l2.length cap'] 35) = W4 at H3 HXb ⊢
      generalize wr.heap.size = u9 at HXb ⊢
      clear c0 c1 c2 c3 c4 c5 c6 c7 HW
      obtain ⟨⟨x0, x1, x2, x3, x4, x5, x6, x7⟩, _⟩ := cell8 HXb.out
      have hsz4 : W1.heap.size ≤ W4.heap.size := H3.out.bel.size
      go_wp2_with (at_builtin; refine wpList_append_own _ rfl _ _ 42 rfl W1.heap.size 3 i0 (.int .i64 0) 1 8 Tryz.underlying42 hi hz0 hz1 hz2 rfl (by decide) _ _ _ rfl (H3.out.own.alloc _) ⟨W4.heap.size, 0, none⟩ 1 1 [.int .i64 h2.n] rfl rfl ?c1 ?c2 ?c3 ?c4 ?c5 ?_)
      case c1 =>
        intro j u hj
        match j, hj with
        | 0, hj => simp at hj; subst hj; simp [Addr.add]
      case c2 => intro u hu; simp at hu; subst hu; rfl
      case c3 => unfold maxLen; omega
      case c4 => omega
      case c5 => simp; omega
      intro v' w5 hown' hg5 _
      have H5 := Lib.hid (show Iown W1 w5 v' (ts ++ [h2.n]) from ⟨by rw [List.length_append, List.map_append, hlk]; exact hown', (bt H3.out.bel (ba W4 _)).grown hg5 (by have := H3.out.bel.size; simp; omega) (fun k hk => (H3.out.own.lt k hk).1)⟩)
      clear hown' hg5 hsz4
      go_wp2_with fail
      go_roundw
      case rel => exact ⟨k + 1, ts ++ [h2.n], by omega, by go_num, HT, H5⟩
      case measure => simp [intOf]; omega
    · obtain rfl : k = L.length := by omega
      have hW := HW.out
      have hq := HQ.out
      rw [List.take_length] at hq
      have hml : ts.length ≤ 2000000 := by omega
      have HQ2 := Lib.hid hq
      have HSt := Lib.hid (sortT_any _ _ _ _ hW.own hml)
      have HWb := Lib.hid hW
      clear hW HW HQ hq hlk
      go_wp2_with fail
      refine HSt.out.mono ?_
      rintro e W5 ⟨rfl, ⟨ys, hp, hs, hown⟩, hg⟩
      have hyl : ys.length ≤ 2000000 := by rw [hp.length_eq]; exact hml
      have HC := Lib.hid (compT_any _ _ ys W5 hown hyl)
      have HB5 := Lib.hid (HWb.out.bel.grown hg HWb.out.bel.size (fun k hk => (HWb.out.own.lt k hk).1))
      have HO5 := Lib.hid hown
      have HP := Lib.hid (And.intro hp hs)
      clear hp hs hown hg hyl hml HSt
      go_wp2_with fail
      refine HC.out.mono ?_
      rintro e W6 ⟨⟨A6, cap6, rfl, hi6⟩, hg⟩
      have HB6 := Lib.hid (HB5.out.grown hg HB5.out.size (fun k hk => (HO5.out.lt k hk).1))
      have HI6 := Lib.hid hi6
      clear hi6 hg
      go_wp2_with fail
      obtain ⟨m1, m2⟩ := comp_mem ys HP.out.2
      refine bodyPost_ret (v := .slice A6 (Lib.compact ys).length cap6) (by simp [results, Tryz.results21, go_sem]) rfl ⟨A6, cap6, _, rfl, HI6.out, m1, fun n => ?_, bt HB1.out HB6.out⟩
      rw [m2, HP.out.1.mem_iff, HL.out, HQ2.out]
end Go.Proofs.YtofhaokaldpmaaaGreatDoor
end
section
namespace Go.Proofs.YtofhaokaldpmaaaGreatDoor
open Go.RowKit Go.Shelf
attribute [local go_sem] Oper.semAt_some

/-- An expression, its columns put at places, those that have none at 0. -/
def rbH (pl : Hd → Option Nat) (h : Hd) : Hd := if h.k = 2 then ⟨h.k, ((pl h).getD 0 : Nat), h.vk, h.vn, h.vs, h.tab, h.col⟩ else h
mutual
def rbX (pl : Hd → Option Nat) : Ex → Ex
  | .mk h l => .mk (rbH pl h) (rbXs pl l)
def rbXs (pl : Hd → Option Nat) : List Ex → List Ex
  | [] => []
  | x :: r => rbX pl x :: rbXs pl r
end
theorem rbXs_len {pl : Hd → Option Nat} : ∀ l : List Ex, (rbXs pl l).length = l.length
  | [] => by rw [rbXs]
  | x :: r => by rw [rbXs, List.length_cons, List.length_cons, rbXs_len r]
theorem rbXs_app {pl : Hd → Option Nat} : ∀ (l : List Ex) (x : Ex), rbXs pl (l ++ [x]) = rbXs pl l ++ [rbX pl x]
  | [], x => by rw [List.nil_append, rbXs, rbXs]; rfl
  | z :: r, x => by rw [List.cons_append, rbXs, rbXs_app r x, rbXs]; rfl
def okP (pl : Hd → Option Nat) (x : Ex) : Bool := (putX pl x).isSome
def okPs (pl : Hd → Option Nat) (l : List Ex) : Bool := (putXs pl l).isSome
theorem okPs_app {pl : Hd → Option Nat} (l : List Ex) (x : Ex) : okPs pl (l ++ [x]) = (okPs pl l && okP pl x) := by
  rw [okPs, okPs, okP, putXs_app]
  cases putXs pl l <;> cases putX pl x <;> rfl
theorem okP_mk {pl : Hd → Option Nat} (h : Hd) (l : List Ex) : okP pl (.mk h l) = ((if h.k = 2 then (pl h).isSome else true) && okPs pl l) := by
  rw [okP, okPs, putX, headX]
  by_cases hk : h.k = 2
  · rw [if_pos hk, if_pos hk]
    cases pl h <;> cases putXs pl l <;> rfl
  · rw [if_neg hk, if_neg hk]
    cases putXs pl l <;> rfl
mutual
theorem putX_rb {pl : Hd → Option Nat} : ∀ x : Ex, okP pl x = true → putX pl x = some (rbX pl x)
  | .mk h l, ho => by
    rw [okP_mk, Bool.and_eq_true] at ho
    rw [putX, rbX, putXs_rb l ho.2, headX, rbH]
    by_cases hk : h.k = 2
    · rw [if_pos hk] at ho
      rw [if_pos hk, if_pos hk]
      obtain ⟨n, hn⟩ := Option.isSome_iff_exists.1 ho.1
      rw [hn]
      rfl
    · rw [if_neg hk, if_neg hk]
theorem putXs_rb {pl : Hd → Option Nat} : ∀ l : List Ex, okPs pl l = true → putXs pl l = some (rbXs pl l)
  | [], _ => by rw [putXs, rbXs]
  | x :: r, ho => by
    have hx : okP pl x = true := by
      rw [okPs, putXs] at ho
      rw [okP]
      cases h : putX pl x with
      | none => rw [h] at ho; cases ho
      | some y => rfl
    have hr : okPs pl r = true := by
      rw [okPs, putXs] at ho
      rw [okPs]
      cases h : putXs pl r with
      | none => rw [h] at ho; cases hy : putX pl x <;> rw [hy] at ho <;> cases ho
      | some y => rfl
    rw [putXs, rbXs, putX_rb x hx, putXs_rb r hr]
end
theorem putX_no {pl : Hd → Option Nat} {x : Ex} (ho : okP pl x = false) : putX pl x = none := by
  rw [okP] at ho
  cases h : putX pl x with
  | none => rfl
  | some y => rw [h] at ho; cases ho
theorem rfnV_form (o : Option Nat) : rfnV o = .tuple #[.int .i64 (o.getD 0 : Nat), .bool o.isSome] := by cases o <;> rfl
/-- What the document's bind answers. -/
def BndE (w : World) (y : Ex) (ok : Bool) (e : Ending) (w' : World) : Prop :=
  ∃ A cap, e = .returned (.tuple #[XV y.hd A y.kids.length cap, .bool ok]) ∧ y.kids.length ≤ cap ∧ XsB (Bn w.heap.size w') w' y.kids A ∧ Below w.heap.size w w'
/-- What the document's move answers. -/
def MovE (w : World) (y : Ex) (e : Ending) (w' : World) : Prop :=
  ∃ A cap, e = .returned (XV y.hd A y.kids.length cap) ∧ y.kids.length ≤ cap ∧ XsB (Bn w.heap.size w') w' y.kids A ∧ Below w.heap.size w w'
set_option maxRecDepth 100000 in
set_option maxHeartbeats 32000000 in
theorem rbind_of (cols : List Co) (Ac : Option Addr) (c : Nat) (hcl : cols.length ≤ 9223372036854775807) (h : Hd) (l : List Ex) (hll : l.length ≤ 1000000) (A : Option Addr) (cap : Nat) (w : World) (hCo : CoAt w Ac cols) (hX : XsAt w.heap.size w l A)
    (hC : ∀ (i : Nat) (h' : Hd) (l' : List Ex), l[i]? = some (.mk h' l') → ∀ W1, Below w.heap.size w W1 → ∀ A' cap', XsAt W1.heap.size W1 l' A' → l'.length ≤ cap' →
      Calls Tryz.prog 32 #[XV h' A' l'.length cap', .slice Ac cols.length c] W1 (BndE W1 (rbX (plB cols) (.mk h' l')) (okP (plB cols) (.mk h' l')))) :
    Calls Tryz.prog 32 #[XV h A l.length cap, .slice Ac cols.length c] w (BndE w (rbX (plB cols) (.mk h l)) (okP (plB cols) (.mk h l))) := by
  obtain ⟨i0, hi, hz0, hz1, hz2⟩ := infoE_parts info_expr
  obtain ⟨pl, hpl⟩ : ∃ pl, plB cols = pl := ⟨_, rfl⟩
  have HPl := Lib.hid hpl
  rw [hpl] at hC ⊢
  clear hpl
  have h1 := ba w (xbox h A l.length cap)
  have h2 := bt h1 (ba _ x0)
  have HX0 := Lib.hid (((ba (w.alloc (xbox h A l.length cap)) x0).block _ (by simp)).trans (MapKept.heap_alloc w (xbox h A l.length cap)).1)
  have HZ0 := Lib.hid (show ((w.alloc (xbox h A l.length cap)).alloc x0).heap[w.heap.size + 1]? = some x0 by
    have := (MapKept.heap_alloc (w.alloc (xbox h A l.length cap)) x0).1
    rwa [World.size_alloc] at this)
  have HB0 := Lib.hid h2
  have HS0 := Lib.hid (show w.heap.size + 1 < ((w.alloc (xbox h A l.length cap)).alloc x0).heap.size by simp)
  have HXs := Lib.hid (XsAt.next hX h2)
  have HI := Lib.hid hC
  have HXw := Lib.hid (show XsB (fun k => k < w.heap.size) ((w.alloc (xbox h A l.length cap)).alloc x0) l A from XsB.go (fun k hk => h2.block k hk) (fun _ hk => hk) _ _ hX)
  have HCo := Lib.hid (hCo.kept h2)
  obtain ⟨Y, hY⟩ : ∃ Y, rbX pl (.mk h l) = Y := ⟨_, rfl⟩
  obtain ⟨ok, ho⟩ : ∃ ok, okP pl (.mk h l) = ok := ⟨_, rfl⟩
  have HO := Lib.hid ho
  rw [hY, ho]
  clear ho hCo
  have HY := Lib.hid hY
  clear h1 h2 hX hC hY
  obtain ⟨k, n, vk, vn, vs, tb, cl⟩ := h
  by_cases hk : k = 2
  · subst hk
    obtain ⟨o, ho⟩ : ∃ o, pl ⟨2, n, vk, vn, vs, tb, cl⟩ = o := ⟨_, rfl⟩
    have HF := Lib.hid (fun W (hW : CoAt W Ac cols) => show Calls Tryz.prog 11 #[.slice Ac cols.length c, .string tb, .string cl] W fun e w' => e = .returned (.tuple #[.int .i64 (o.getD 0 : Nat), .bool o.isSome]) ∧ w' = W by
      have := refFind_any tb cl Ac c cols W hW hcl
      rw [rfnV_form, show findX tb cl cols = o from (by rw [← ho, ← HPl.out]; rfl)] at this
      exact this)
    obtain ⟨m, hm⟩ : ∃ m : Int, m = (o.getD 0 : Nat) := ⟨_, rfl⟩
    obtain ⟨b0, hb0⟩ : ∃ b : Bool, o.isSome = b := ⟨_, rfl⟩
    have HRb := Lib.hid (show rbX pl (.mk ⟨2, n, vk, vn, vs, tb, cl⟩ l) = .mk ⟨2, m, vk, vn, vs, tb, cl⟩ (rbXs pl l) by rw [rbX, rbH, if_pos rfl, ho, hm])
    have HOk := Lib.hid (show okP pl (.mk ⟨2, n, vk, vn, vs, tb, cl⟩ l) = (b0 && okPs pl l) by rw [okP_mk, if_pos rfl, ho, hb0])
    rw [← hm, hb0] at HF
    clear hm hb0 ho
    go_enter Tryz.func32, Tryz.ntmps32
    go_upto_region 1 with fail
    generalize (w.alloc (.cells #[.int .i64 2, .int .i64 n, .int .i64 vk, .int .i64 vn, .string vs, .string tb, .string cl, .slice A l.length cap] 35)).alloc (.cells #[.int .i64 0, .int .i64 0, .int .i64 0, .int .i64 0, .string ⟨#[]⟩, .string ⟨#[]⟩, .string ⟨#[]⟩, .slice none 0 0] 35) = W0 at HX0 HZ0 HB0 HS0 HXs HXw HCo ⊢
    obtain ⟨⟨x0, x1, x2, x3, x4, x5, x6, x7⟩, f0, f1, f2, f3, f4, f5, f6, f7⟩ := cell8 HX0.out
    have hf := HF.out W0 HCo.out
    have HN0 := Lib.hid (setN_box HX0.out m)
    have HN1 := Lib.hid ((setc_other (W := W0) (U := w.heap.size) (j := 1) (k := w.heap.size + 1) (by omega) (.int .i64 m)).trans HZ0.out)
    have HN2 := Lib.hid (HB0.out.setCell (p := ⟨w.heap.size, 1, none⟩) (Nat.le_refl _) (.int .i64 m))
    have HN3 := Lib.hid (show w.heap.size + 1 < (W0.setCell ⟨w.heap.size, 1, none⟩ (.int .i64 m)).heap.size by rw [setc_size]; exact HS0.out)
    have HN4 := Lib.hid (show XsAt (W0.setCell ⟨w.heap.size, 1, none⟩ (.int .i64 m)).heap.size (W0.setCell ⟨w.heap.size, 1, none⟩ (.int .i64 m)) l A from XsB.go (fun k hk => setc_other (show k ≠ w.heap.size from Nat.ne_of_lt hk) _) (fun k hk => by rw [setc_size]; have h9 : k < w.heap.size := hk; have := HS0.out; omega) _ _ HXw.out)
    go_wp2_with fail
    refine hf.mono ?_
    rintro e W1 ⟨rfl, rfl⟩
    go_upto_region 4 with fail
    generalize W1.setCell ⟨w.heap.size, 1, none⟩ (.int .i64 m) = W0 at HN0 HN1 HN2 HN3 HN4 ⊢
    clear x0 x1 x2 x3 x4 x5 x6 x7 f0 f1 f2 f3 f4 f5 f6 f7 hf HX0 HZ0 HB0 HS0 HXs HXw HCo HF
    have HX0 := HN0
    have HZ0 := HN1
    have HB0 := HN2
    have HS0 := HN3
    have HXs := HN4
    clear HN0 HN1 HN2 HN3 HN4
    obtain ⟨⟨x0, x1, x2, x3, x4, x5, x6, x7⟩, _⟩ := cell8 HX0.out
    go_wp2_with fail
    clear x0 x1 x2 x3 x4 x5 x6 x7
    go_loopw [8, 6, 7] (fun i b v W => ∃ (j : Nat) (q : Bool), j ≤ l.length ∧ i = .int .i64 j ∧ b = .bool q ∧ Hid (q = (b0 && okPs pl (l.take j))) ∧ Hid (Xown W0.heap.size W0 W v (rbXs pl (l.take j)))) (fun i _ _ _ => l.length - (intOf i).toNat)
    case atStart => exact ⟨0, b0, Nat.zero_le _, rfl, rfl, Lib.hid (by rw [List.take_zero, okPs, putXs]; simp), Lib.hid (by rw [List.take_zero, rbXs]; exact Xown.nil _)⟩
    case round =>
      obtain ⟨j, q, hj, rfl, rfl, HQ, HW⟩ := hrel
      obtain ⟨la, hla⟩ : ∃ la, rbXs pl (l.take j) = la := ⟨_, rfl⟩
      rw [hla] at HW
      have HLa := Lib.hid hla
      have hkl : la.length = j := by rw [← hla, rbXs_len, List.length_take]; omega
      clear hla
      obtain ⟨AS, capS, hv⟩ := HW.out.slice
      rw [hkl] at hv
      subst hv
      have HX1 := Lib.hid ((HW.out.bel.block _ (by have := HS0.out; omega)).trans HX0.out)
      have HZ1 := Lib.hid ((HW.out.bel.block _ HS0.out).trans HZ0.out)
      by_cases hjn : j < l.length
      · obtain ⟨x, hx⟩ : ∃ x, l[j]? = some x := ⟨_, List.getElem?_eq_getElem hjn⟩
        obtain ⟨h2, l2⟩ := x
        have hT : l.take (j + 1) = l.take j ++ [.mk h2 l2] := by rw [List.take_add_one, hx]; rfl
        have HT := Lib.hid (show rbXs pl (l.take (j + 1)) = la ++ [rbX pl (.mk h2 l2)] by rw [hT, rbXs_app, HLa.out])
        have HTo := Lib.hid (show okPs pl (l.take (j + 1)) = (okPs pl (l.take j) && okP pl (.mk h2 l2)) by rw [hT, okPs_app])
        obtain ⟨g, off, A', cap', rfl, hg, hX, hle', hl'⟩ := HXs.out.at hx
        have hXr := hX.of (HW.out.bel.block g hg)
        obtain ⟨c0, c1, c2, c3, c4, c5, c6, c7⟩ := hXr
        obtain ⟨⟨e0, e1, e2, e3, e4, e5, e6, e7⟩, _⟩ := cell8 HX1.out
        have hb1 := HW.out.bel
        have hC1 := HI.out j h2 l2 hx wr (bt HB0.out hb1) A' cap' (XsAt.next hl' hb1) hle'
        generalize okP pl (.mk h2 l2) = r at hC1 HTo
        obtain ⟨y, hy⟩ : ∃ y, rbX pl (.mk h2 l2) = y := ⟨_, rfl⟩
        rw [hy] at hC1 HT
        obtain ⟨hY, lY⟩ := y
        have HC := Lib.hid hC1
        have hws : W0.heap.size ≤ wr.heap.size := hb1.size
        clear hX hl' hx hg hT hb1 hC1 hy hle'
        cases q
        · go_wp2_with fail
          refine HC.out.mono ?_
          rintro e w3 ⟨A3, cap3, rfl, hle3, hx3, hb3⟩
          simp only [Ex.hd, Ex.kids] at hle3 hx3 ⊢
          have hbx := ba w3 (xbox hY A3 lY.length cap3)
          have hs3 : W0.heap.size ≤ w3.heap.size := by have := hb3.size; omega
          have H3 := Lib.hid ((HW.out.below hb3).below hbx)
          have HX3 := Lib.hid (show XsB (Ot W0.heap.size (w3.alloc (xbox hY A3 lY.length cap3)) (.slice AS j capS)) (w3.alloc (xbox hY A3 lY.length cap3)) lY A3 from
            XsB.go (fun k hk => hbx.block k hk.2) (fun k hk => ⟨by have := hk.1; omega, by rw [World.size_alloc]; have := hk.2; omega, fun e => by
              obtain ⟨q0, hq0⟩ := HW.out.row
              have := (hq0.2.lt k e).2
              have h2 := hk.1; omega⟩) _ _ hx3)
          have HXt := Lib.hid (MapKept.heap_alloc w3 (xbox hY A3 lY.length cap3)).1
          have HLE3 := Lib.hid hle3
          have HS3 := Lib.hid hs3
          clear hb3 hbx hx3 hle3 hs3 c0 c1 c2 c3 c4 c5 c6 c7 e0 e1 e2 e3 e4 e5 e6 e7 HC
          go_upto_region 9 with fail
          generalize hW4 : w3.alloc (.cells #[.int .i64 hY.k, .int .i64 hY.n, .int .i64 hY.vk, .int .i64 hY.vn, .string hY.vs, .string hY.tab, .string hY.col, .slice A3 lY.length cap3] 35) = W4 at H3 HX3 HXt ⊢
          generalize hu9 : w3.heap.size = p9 at HXt HS3 ⊢
          clear hW4 hu9
          obtain ⟨⟨y0, y1, y2, y3, y4, y5, y6, y7⟩, _⟩ := cell8 HXt.out
          obtain ⟨q9, hq⟩ := H3.out.row
          have hq2 := hq.2
          rw [hkl] at hq2
          have HQ2 := Lib.hid hq2
          have HH3 := Lib.hid (show ∀ o v' w', w'.ownsRow W0.heap.size 35 8 v' (j + 1) (xcells q9 ++ xcell (hY, A3, lY.length, cap3)) → (W4.alloc o).grownBy w' (Value.ownBlock (.slice AS j capS)) →
              (v'.ownBlock = Value.ownBlock (.slice AS j capS) ∨ v'.ownBlock = some (W4.heap.size + 1)) → Xown W0.heap.size W0 w' v' (la ++ [.mk hY lY]) from fun o v' w' ho hg hat =>
            H3.out.grow hq (e := .mk hY lY) (x := (hY, A3, lY.length, cap3)) ⟨rfl, rfl, HLE3.out, HX3.out⟩ (by rw [hkl]; exact ho) hg (by rw [World.size_alloc]; exact hat))
          have HLE := Lib.hid H3.out.le
          clear hq2 hq
          go_wp2_with (at_builtin; refine wpList_append_own_at _ rfl _ _ 33 rfl W0.heap.size 35 i0 _ 8 104 Tryz.underlying33 hi hz0 hz1 hz2 rfl (by decide) _ _ _ rfl (HQ2.out.alloc _) ⟨W4.heap.size, 0, none⟩ 1 1 (xcell (hY, A3, lY.length, cap3)) rfl rfl (xnews _ _ _) (xcell_one _) ?c3 ?c4 ?c5 ?_)
          case c3 => unfold maxLen; omega
          case c4 => omega
          case c5 => have := HLE.out; simp; omega
          intro v' w4 hown' hg4 _ hat
          have HG := Lib.hid (HH3.out _ _ _ hown' hg4 hat)
          clear hown' hg4 hat
          go_wp2_with fail
          go_roundw
          case rel => exact ⟨j + 1, false, by omega, by go_num, rfl, Lib.hid (by rw [HTo.out, ← Bool.and_assoc, ← HQ.out]; rfl), by rw [HT.out]; exact HG⟩
          case measure => simp [intOf]; omega
        · go_wp2_with fail
          refine HC.out.mono ?_
          rintro e w3 ⟨A3, cap3, rfl, hle3, hx3, hb3⟩
          simp only [Ex.hd, Ex.kids] at hle3 hx3 ⊢
          have hbx := ba w3 (xbox hY A3 lY.length cap3)
          have hs3 : W0.heap.size ≤ w3.heap.size := by have := hb3.size; omega
          have H3 := Lib.hid ((HW.out.below hb3).below hbx)
          have HX3 := Lib.hid (show XsB (Ot W0.heap.size (w3.alloc (xbox hY A3 lY.length cap3)) (.slice AS j capS)) (w3.alloc (xbox hY A3 lY.length cap3)) lY A3 from
            XsB.go (fun k hk => hbx.block k hk.2) (fun k hk => ⟨by have := hk.1; omega, by rw [World.size_alloc]; have := hk.2; omega, fun e => by
              obtain ⟨q0, hq0⟩ := HW.out.row
              have := (hq0.2.lt k e).2
              have h2 := hk.1; omega⟩) _ _ hx3)
          have HXt := Lib.hid (MapKept.heap_alloc w3 (xbox hY A3 lY.length cap3)).1
          have HLE3 := Lib.hid hle3
          have HS3 := Lib.hid hs3
          clear hb3 hbx hx3 hle3 hs3 c0 c1 c2 c3 c4 c5 c6 c7 e0 e1 e2 e3 e4 e5 e6 e7 HC
          go_upto_region 9 with fail
          generalize hW4 : w3.alloc (.cells #[.int .i64 hY.k, .int .i64 hY.n, .int .i64 hY.vk, .int .i64 hY.vn, .string hY.vs, .string hY.tab, .string hY.col, .slice A3 lY.length cap3] 35) = W4 at H3 HX3 HXt ⊢
          generalize hu9 : w3.heap.size = p9 at HXt HS3 ⊢
          clear hW4 hu9
          obtain ⟨⟨y0, y1, y2, y3, y4, y5, y6, y7⟩, _⟩ := cell8 HXt.out
          obtain ⟨q9, hq⟩ := H3.out.row
          have hq2 := hq.2
          rw [hkl] at hq2
          have HQ2 := Lib.hid hq2
          have HH3 := Lib.hid (show ∀ o v' w', w'.ownsRow W0.heap.size 35 8 v' (j + 1) (xcells q9 ++ xcell (hY, A3, lY.length, cap3)) → (W4.alloc o).grownBy w' (Value.ownBlock (.slice AS j capS)) →
              (v'.ownBlock = Value.ownBlock (.slice AS j capS) ∨ v'.ownBlock = some (W4.heap.size + 1)) → Xown W0.heap.size W0 w' v' (la ++ [.mk hY lY]) from fun o v' w' ho hg hat =>
            H3.out.grow hq (e := .mk hY lY) (x := (hY, A3, lY.length, cap3)) ⟨rfl, rfl, HLE3.out, HX3.out⟩ (by rw [hkl]; exact ho) hg (by rw [World.size_alloc]; exact hat))
          have HLE := Lib.hid H3.out.le
          clear hq2 hq
          go_wp2_with (at_builtin; refine wpList_append_own_at _ rfl _ _ 33 rfl W0.heap.size 35 i0 _ 8 104 Tryz.underlying33 hi hz0 hz1 hz2 rfl (by decide) _ _ _ rfl (HQ2.out.alloc _) ⟨W4.heap.size, 0, none⟩ 1 1 (xcell (hY, A3, lY.length, cap3)) rfl rfl (xnews _ _ _) (xcell_one _) ?c3 ?c4 ?c5 ?_)
          case c3 => unfold maxLen; omega
          case c4 => omega
          case c5 => have := HLE.out; simp; omega
          intro v' w4 hown' hg4 _ hat
          have HG := Lib.hid (HH3.out _ _ _ hown' hg4 hat)
          clear hown' hg4 hat
          go_wp2_with fail
          go_roundw
          case rel => exact ⟨j + 1, r, by omega, by go_num, rfl, Lib.hid (by rw [HTo.out, ← Bool.and_assoc, ← HQ.out]; rfl), by rw [HT.out]; exact HG⟩
          case measure => simp [intOf]; omega
      · obtain rfl : j = l.length := by omega
        have hlb : rbXs pl l = la := by have := HLa.out; rwa [List.take_length] at this
        obtain rfl : Y = .mk ⟨2, m, vk, vn, vs, tb, cl⟩ la := HY.out.symm.trans (by rw [HRb.out, hlb])
        obtain rfl : ok = q := by rw [← HO.out, HOk.out, HQ.out, List.take_length]
        obtain ⟨A3, cap3, hv3, hle3, hx3⟩ := HW.out.xsB
        rw [hkl] at hv3 hle3
        obtain ⟨rfl, _, rfl⟩ := Value.slice.inj hv3
        have HLE := Lib.hid hle3
        have HKL := Lib.hid hkl
        have HX4a := Lib.hid (setL_box HX1.out AS l.length capS)
        have HZ4a := Lib.hid ((setc_other (W := wr) (U := w.heap.size) (j := 7) (k := w.heap.size + 1) (by omega) (.slice AS l.length capS)).trans HZ1.out)
        have HB4a := Lib.hid ((bt HB0.out HW.out.bel).setCell (p := ⟨w.heap.size, 7, none⟩) (Nat.le_refl _) (.slice AS l.length capS))
        obtain ⟨⟨y0, y1, y2, y3, y4, y5, y6, y7⟩, f0, f1, f2, f3, f4, f5, f6, f7⟩ := cell8 HX1.out
        have HXX := Lib.hid (show XsB (fun k => W0.heap.size ≤ k ∧ k < (wr.setCell ⟨w.heap.size, 7, none⟩ (.slice AS l.length capS)).heap.size) (wr.setCell ⟨w.heap.size, 7, none⟩ (.slice AS l.length capS)) la AS from XsB.go (fun k hk => setc_other (by have := HS0.out; have := hk.1; simp; omega) _) (fun k hk => ⟨hk.1, by rw [setc_size]; exact hk.2⟩) _ _ hx3)
        clear hv3 hle3 hx3 hlb hkl HX1 HZ1
        go_upto_region 12 with fail
        generalize wr.setCell ⟨w.heap.size, 7, none⟩ (.slice AS l.length capS) = W4 at HX4a HZ4a HB4a HXX ⊢
        clear y0 y1 y2 y3 y4 y5 y6 y7 f0 f1 f2 f3 f4 f5 f6 f7 HW
        obtain ⟨⟨y0, y1, y2, y3, y4, y5, y6, y7⟩, _⟩ := cell8 HX4a.out
        obtain ⟨⟨z0, z1, z2, z3, z4, z5, z6, z7⟩, g0, g1, g2, g3, g4, g5, g6, g7⟩ := cell8 HZ4a.out
        have HZ := Lib.hid (set8_box HZ4a.out (.int .i64 2) (.int .i64 m) (.int .i64 vk) (.int .i64 vn) (.string vs) (.string tb) (.string cl) (.slice AS l.length capS))
        go_wp2_with fail
        obtain ⟨⟨q0, q1, q2, q3, q4, q5, q6, q7⟩, _⟩ := cell8 HZ.out
        refine bodyPost_ret (v := .tuple #[XV ⟨2, m, vk, vn, vs, tb, cl⟩ AS l.length capS, .bool ok]) (by simp [results, Tryz.results32, go_sem, q0, q1, q2, q3, q4, q5, q6, q7]) rfl ⟨AS, capS, by rw [← HKL.out]; rfl, by show la.length ≤ capS; rw [HKL.out]; exact HLE.out, ?_, ?_⟩
        · exact XsB.go (fun k hk => set8_other (by have := HS0.out; have := hk.1; omega) _ _ _ _ _ _ _ _) (fun k hk => ⟨by have := HS0.out; have := hk.1; omega, by rw [set8_size]; exact hk.2⟩) _ _ HXX.out
        · exact set8_below HB4a.out (by omega) _ _ _ _ _ _ _ _
  · have hkb : (k == 2) = false := by simpa using hk
    have HRb := Lib.hid (show rbX pl (.mk ⟨k, n, vk, vn, vs, tb, cl⟩ l) = .mk ⟨k, n, vk, vn, vs, tb, cl⟩ (rbXs pl l) by rw [rbX, rbH, if_neg hk])
    obtain ⟨b0, hb0⟩ : ∃ b : Bool, true = b := ⟨_, rfl⟩
    have HOk := Lib.hid (show okP pl (.mk ⟨k, n, vk, vn, vs, tb, cl⟩ l) = (b0 && okPs pl l) by rw [okP_mk, if_neg hk, hb0])
    subst hb0
    clear hk HCo
    go_enter Tryz.func32, Tryz.ntmps32
    go_upto_region 1 with fail
    generalize (w.alloc (.cells #[.int .i64 k, .int .i64 n, .int .i64 vk, .int .i64 vn, .string vs, .string tb, .string cl, .slice A l.length cap] 35)).alloc (.cells #[.int .i64 0, .int .i64 0, .int .i64 0, .int .i64 0, .string ⟨#[]⟩, .string ⟨#[]⟩, .string ⟨#[]⟩, .slice none 0 0] 35) = W0 at HX0 HZ0 HB0 HS0 HXs HXw ⊢
    obtain ⟨⟨x0, x1, x2, x3, x4, x5, x6, x7⟩, f0, f1, f2, f3, f4, f5, f6, f7⟩ := cell8 HX0.out
    go_wp2_with fail
    clear x0 x1 x2 x3 x4 x5 x6 x7 f0 f1 f2 f3 f4 f5 f6 f7 HXw
    go_loopw [8, 6, 7] (fun i b v W => ∃ (j : Nat) (q : Bool), j ≤ l.length ∧ i = .int .i64 j ∧ b = .bool q ∧ Hid (q = (true && okPs pl (l.take j))) ∧ Hid (Xown W0.heap.size W0 W v (rbXs pl (l.take j)))) (fun i _ _ _ => l.length - (intOf i).toNat)
    case atStart => exact ⟨0, true, Nat.zero_le _, rfl, rfl, Lib.hid (by rw [List.take_zero, okPs, putXs]; simp), Lib.hid (by rw [List.take_zero, rbXs]; exact Xown.nil _)⟩
    case round =>
      obtain ⟨j, q, hj, rfl, rfl, HQ, HW⟩ := hrel
      obtain ⟨la, hla⟩ : ∃ la, rbXs pl (l.take j) = la := ⟨_, rfl⟩
      rw [hla] at HW
      have HLa := Lib.hid hla
      have hkl : la.length = j := by rw [← hla, rbXs_len, List.length_take]; omega
      clear hla
      obtain ⟨AS, capS, hv⟩ := HW.out.slice
      rw [hkl] at hv
      subst hv
      have HX1 := Lib.hid ((HW.out.bel.block _ (by have := HS0.out; omega)).trans HX0.out)
      have HZ1 := Lib.hid ((HW.out.bel.block _ HS0.out).trans HZ0.out)
      by_cases hjn : j < l.length
      · obtain ⟨x, hx⟩ : ∃ x, l[j]? = some x := ⟨_, List.getElem?_eq_getElem hjn⟩
        obtain ⟨h2, l2⟩ := x
        have hT : l.take (j + 1) = l.take j ++ [.mk h2 l2] := by rw [List.take_add_one, hx]; rfl
        have HT := Lib.hid (show rbXs pl (l.take (j + 1)) = la ++ [rbX pl (.mk h2 l2)] by rw [hT, rbXs_app, HLa.out])
        have HTo := Lib.hid (show okPs pl (l.take (j + 1)) = (okPs pl (l.take j) && okP pl (.mk h2 l2)) by rw [hT, okPs_app])
        obtain ⟨g, off, A', cap', rfl, hg, hX, hle', hl'⟩ := HXs.out.at hx
        have hXr := hX.of (HW.out.bel.block g hg)
        obtain ⟨c0, c1, c2, c3, c4, c5, c6, c7⟩ := hXr
        obtain ⟨⟨e0, e1, e2, e3, e4, e5, e6, e7⟩, _⟩ := cell8 HX1.out
        have hb1 := HW.out.bel
        have hC1 := HI.out j h2 l2 hx wr (bt HB0.out hb1) A' cap' (XsAt.next hl' hb1) hle'
        generalize okP pl (.mk h2 l2) = r at hC1 HTo
        obtain ⟨y, hy⟩ : ∃ y, rbX pl (.mk h2 l2) = y := ⟨_, rfl⟩
        rw [hy] at hC1 HT
        obtain ⟨hY, lY⟩ := y
        have HC := Lib.hid hC1
        have hws : W0.heap.size ≤ wr.heap.size := hb1.size
        clear hX hl' hx hg hT hb1 hC1 hy hle'
        cases q
        · go_wp2_with fail
          refine HC.out.mono ?_
          rintro e w3 ⟨A3, cap3, rfl, hle3, hx3, hb3⟩
          simp only [Ex.hd, Ex.kids] at hle3 hx3 ⊢
          have hbx := ba w3 (xbox hY A3 lY.length cap3)
          have hs3 : W0.heap.size ≤ w3.heap.size := by have := hb3.size; omega
          have H3 := Lib.hid ((HW.out.below hb3).below hbx)
          have HX3 := Lib.hid (show XsB (Ot W0.heap.size (w3.alloc (xbox hY A3 lY.length cap3)) (.slice AS j capS)) (w3.alloc (xbox hY A3 lY.length cap3)) lY A3 from
            XsB.go (fun k hk => hbx.block k hk.2) (fun k hk => ⟨by have := hk.1; omega, by rw [World.size_alloc]; have := hk.2; omega, fun e => by
              obtain ⟨q0, hq0⟩ := HW.out.row
              have := (hq0.2.lt k e).2
              have h2 := hk.1; omega⟩) _ _ hx3)
          have HXt := Lib.hid (MapKept.heap_alloc w3 (xbox hY A3 lY.length cap3)).1
          have HLE3 := Lib.hid hle3
          have HS3 := Lib.hid hs3
          clear hb3 hbx hx3 hle3 hs3 c0 c1 c2 c3 c4 c5 c6 c7 e0 e1 e2 e3 e4 e5 e6 e7 HC
          go_upto_region 9 with fail
          generalize hW4 : w3.alloc (.cells #[.int .i64 hY.k, .int .i64 hY.n, .int .i64 hY.vk, .int .i64 hY.vn, .string hY.vs, .string hY.tab, .string hY.col, .slice A3 lY.length cap3] 35) = W4 at H3 HX3 HXt ⊢
          generalize hu9 : w3.heap.size = p9 at HXt HS3 ⊢
          clear hW4 hu9
          obtain ⟨⟨y0, y1, y2, y3, y4, y5, y6, y7⟩, _⟩ := cell8 HXt.out
          obtain ⟨q9, hq⟩ := H3.out.row
          have hq2 := hq.2
          rw [hkl] at hq2
          have HQ2 := Lib.hid hq2
          have HH3 := Lib.hid (show ∀ o v' w', w'.ownsRow W0.heap.size 35 8 v' (j + 1) (xcells q9 ++ xcell (hY, A3, lY.length, cap3)) → (W4.alloc o).grownBy w' (Value.ownBlock (.slice AS j capS)) →
              (v'.ownBlock = Value.ownBlock (.slice AS j capS) ∨ v'.ownBlock = some (W4.heap.size + 1)) → Xown W0.heap.size W0 w' v' (la ++ [.mk hY lY]) from fun o v' w' ho hg hat =>
            H3.out.grow hq (e := .mk hY lY) (x := (hY, A3, lY.length, cap3)) ⟨rfl, rfl, HLE3.out, HX3.out⟩ (by rw [hkl]; exact ho) hg (by rw [World.size_alloc]; exact hat))
          have HLE := Lib.hid H3.out.le
          clear hq2 hq
          go_wp2_with (at_builtin; refine wpList_append_own_at _ rfl _ _ 33 rfl W0.heap.size 35 i0 _ 8 104 Tryz.underlying33 hi hz0 hz1 hz2 rfl (by decide) _ _ _ rfl (HQ2.out.alloc _) ⟨W4.heap.size, 0, none⟩ 1 1 (xcell (hY, A3, lY.length, cap3)) rfl rfl (xnews _ _ _) (xcell_one _) ?c3 ?c4 ?c5 ?_)
          case c3 => unfold maxLen; omega
          case c4 => omega
          case c5 => have := HLE.out; simp; omega
          intro v' w4 hown' hg4 _ hat
          have HG := Lib.hid (HH3.out _ _ _ hown' hg4 hat)
          clear hown' hg4 hat
          go_wp2_with fail
          go_roundw
          case rel => exact ⟨j + 1, false, by omega, by go_num, rfl, Lib.hid (by rw [HTo.out, ← Bool.and_assoc, ← HQ.out]; rfl), by rw [HT.out]; exact HG⟩
          case measure => simp [intOf]; omega
        · go_wp2_with fail
          refine HC.out.mono ?_
          rintro e w3 ⟨A3, cap3, rfl, hle3, hx3, hb3⟩
          simp only [Ex.hd, Ex.kids] at hle3 hx3 ⊢
          have hbx := ba w3 (xbox hY A3 lY.length cap3)
          have hs3 : W0.heap.size ≤ w3.heap.size := by have := hb3.size; omega
          have H3 := Lib.hid ((HW.out.below hb3).below hbx)
          have HX3 := Lib.hid (show XsB (Ot W0.heap.size (w3.alloc (xbox hY A3 lY.length cap3)) (.slice AS j capS)) (w3.alloc (xbox hY A3 lY.length cap3)) lY A3 from
            XsB.go (fun k hk => hbx.block k hk.2) (fun k hk => ⟨by have := hk.1; omega, by rw [World.size_alloc]; have := hk.2; omega, fun e => by
              obtain ⟨q0, hq0⟩ := HW.out.row
              have := (hq0.2.lt k e).2
              have h2 := hk.1; omega⟩) _ _ hx3)
          have HXt := Lib.hid (MapKept.heap_alloc w3 (xbox hY A3 lY.length cap3)).1
          have HLE3 := Lib.hid hle3
          have HS3 := Lib.hid hs3
          clear hb3 hbx hx3 hle3 hs3 c0 c1 c2 c3 c4 c5 c6 c7 e0 e1 e2 e3 e4 e5 e6 e7 HC
          go_upto_region 9 with fail
          generalize hW4 : w3.alloc (.cells #[.int .i64 hY.k, .int .i64 hY.n, .int .i64 hY.vk, .int .i64 hY.vn, .string hY.vs, .string hY.tab, .string hY.col, .slice A3 lY.length cap3] 35) = W4 at H3 HX3 HXt ⊢
          generalize hu9 : w3.heap.size = p9 at HXt HS3 ⊢
          clear hW4 hu9
          obtain ⟨⟨y0, y1, y2, y3, y4, y5, y6, y7⟩, _⟩ := cell8 HXt.out
          obtain ⟨q9, hq⟩ := H3.out.row
          have hq2 := hq.2
          rw [hkl] at hq2
          have HQ2 := Lib.hid hq2
          have HH3 := Lib.hid (show ∀ o v' w', w'.ownsRow W0.heap.size 35 8 v' (j + 1) (xcells q9 ++ xcell (hY, A3, lY.length, cap3)) → (W4.alloc o).grownBy w' (Value.ownBlock (.slice AS j capS)) →
              (v'.ownBlock = Value.ownBlock (.slice AS j capS) ∨ v'.ownBlock = some (W4.heap.size + 1)) → Xown W0.heap.size W0 w' v' (la ++ [.mk hY lY]) from fun o v' w' ho hg hat =>
            H3.out.grow hq (e := .mk hY lY) (x := (hY, A3, lY.length, cap3)) ⟨rfl, rfl, HLE3.out, HX3.out⟩ (by rw [hkl]; exact ho) hg (by rw [World.size_alloc]; exact hat))
          have HLE := Lib.hid H3.out.le
          clear hq2 hq
          go_wp2_with (at_builtin; refine wpList_append_own_at _ rfl _ _ 33 rfl W0.heap.size 35 i0 _ 8 104 Tryz.underlying33 hi hz0 hz1 hz2 rfl (by decide) _ _ _ rfl (HQ2.out.alloc _) ⟨W4.heap.size, 0, none⟩ 1 1 (xcell (hY, A3, lY.length, cap3)) rfl rfl (xnews _ _ _) (xcell_one _) ?c3 ?c4 ?c5 ?_)
          case c3 => unfold maxLen; omega
          case c4 => omega
          case c5 => have := HLE.out; simp; omega
          intro v' w4 hown' hg4 _ hat
          have HG := Lib.hid (HH3.out _ _ _ hown' hg4 hat)
          clear hown' hg4 hat
          go_wp2_with fail
          go_roundw
          case rel => exact ⟨j + 1, r, by omega, by go_num, rfl, Lib.hid (by rw [HTo.out, ← Bool.and_assoc, ← HQ.out]; rfl), by rw [HT.out]; exact HG⟩
          case measure => simp [intOf]; omega
      · obtain rfl : j = l.length := by omega
        have hlb : rbXs pl l = la := by have := HLa.out; rwa [List.take_length] at this
        obtain rfl : Y = .mk ⟨k, n, vk, vn, vs, tb, cl⟩ la := HY.out.symm.trans (by rw [HRb.out, hlb])
        obtain rfl : ok = q := by rw [← HO.out, HOk.out, HQ.out, List.take_length]
        obtain ⟨A3, cap3, hv3, hle3, hx3⟩ := HW.out.xsB
        rw [hkl] at hv3 hle3
        obtain ⟨rfl, _, rfl⟩ := Value.slice.inj hv3
        have HLE := Lib.hid hle3
        have HKL := Lib.hid hkl
        have HX4a := Lib.hid (setL_box HX1.out AS l.length capS)
        have HZ4a := Lib.hid ((setc_other (W := wr) (U := w.heap.size) (j := 7) (k := w.heap.size + 1) (by omega) (.slice AS l.length capS)).trans HZ1.out)
        have HB4a := Lib.hid ((bt HB0.out HW.out.bel).setCell (p := ⟨w.heap.size, 7, none⟩) (Nat.le_refl _) (.slice AS l.length capS))
        obtain ⟨⟨y0, y1, y2, y3, y4, y5, y6, y7⟩, f0, f1, f2, f3, f4, f5, f6, f7⟩ := cell8 HX1.out
        have HXX := Lib.hid (show XsB (fun k => W0.heap.size ≤ k ∧ k < (wr.setCell ⟨w.heap.size, 7, none⟩ (.slice AS l.length capS)).heap.size) (wr.setCell ⟨w.heap.size, 7, none⟩ (.slice AS l.length capS)) la AS from XsB.go (fun k hk => setc_other (by have := HS0.out; have := hk.1; simp; omega) _) (fun k hk => ⟨hk.1, by rw [setc_size]; exact hk.2⟩) _ _ hx3)
        clear hv3 hle3 hx3 hlb hkl HX1 HZ1
        go_upto_region 12 with fail
        generalize wr.setCell ⟨w.heap.size, 7, none⟩ (.slice AS l.length capS) = W4 at HX4a HZ4a HB4a HXX ⊢
        clear y0 y1 y2 y3 y4 y5 y6 y7 f0 f1 f2 f3 f4 f5 f6 f7 HW
        obtain ⟨⟨y0, y1, y2, y3, y4, y5, y6, y7⟩, _⟩ := cell8 HX4a.out
        obtain ⟨⟨z0, z1, z2, z3, z4, z5, z6, z7⟩, g0, g1, g2, g3, g4, g5, g6, g7⟩ := cell8 HZ4a.out
        have HZ := Lib.hid (set8_box HZ4a.out (.int .i64 k) (.int .i64 n) (.int .i64 vk) (.int .i64 vn) (.string vs) (.string tb) (.string cl) (.slice AS l.length capS))
        go_wp2_with fail
        obtain ⟨⟨q0, q1, q2, q3, q4, q5, q6, q7⟩, _⟩ := cell8 HZ.out
        refine bodyPost_ret (v := .tuple #[XV ⟨k, n, vk, vn, vs, tb, cl⟩ AS l.length capS, .bool ok]) (by simp [results, Tryz.results32, go_sem, q0, q1, q2, q3, q4, q5, q6, q7]) rfl ⟨AS, capS, by rw [← HKL.out]; rfl, by show la.length ≤ capS; rw [HKL.out]; exact HLE.out, ?_, ?_⟩
        · exact XsB.go (fun k hk => set8_other (by have := HS0.out; have := hk.1; omega) _ _ _ _ _ _ _ _) (fun k hk => ⟨by have := HS0.out; have := hk.1; omega, by rw [set8_size]; exact hk.2⟩) _ _ HXX.out
        · exact set8_below HB4a.out (by omega) _ _ _ _ _ _ _ _
set_option maxRecDepth 100000 in
set_option maxHeartbeats 32000000 in
theorem rmove_of (places : List Int) (Ap : Option Addr) (c : Nat) (h : Hd) (l : List Ex) (hll : l.length ≤ 1000000) (A : Option Addr) (cap : Nat) (w : World) (hIn : InAt w Ap places) (hX : XsAt w.heap.size w l A) (hok : h.k = 2 → 0 ≤ h.n ∧ (plM places h).isSome = true)
    (hC : ∀ (i : Nat) (h' : Hd) (l' : List Ex), l[i]? = some (.mk h' l') → ∀ W1, Below w.heap.size w W1 → ∀ A' cap', XsAt W1.heap.size W1 l' A' → l'.length ≤ cap' →
      Calls Tryz.prog 39 #[XV h' A' l'.length cap', .slice Ap places.length c] W1 (MovE W1 (rbX (plM places) (.mk h' l')))) :
    Calls Tryz.prog 39 #[XV h A l.length cap, .slice Ap places.length c] w (MovE w (rbX (plM places) (.mk h l))) := by
  obtain ⟨i0, hi, hz0, hz1, hz2⟩ := infoE_parts info_expr
  have HPm := Lib.hid (show h.k = 2 → ∃ i : Nat, h.n = i ∧ ∃ (hi : i < places.length) (m : Nat), places[i] = (m : Int) ∧ plM places h = some m from fun hk => by
    obtain ⟨h0, h1⟩ := hok hk
    obtain ⟨i, hi⟩ := Int.eq_ofNat_of_zero_le h0
    unfold plM at h1 ⊢
    rw [hi, Int.toNat_natCast] at h1 ⊢
    by_cases hlt : ((i : Nat) : Int) < (places.length : Int)
    · rw [if_pos hlt] at h1 ⊢
      have hlt' : i < places.length := by omega
      rw [List.getD_eq_getElem?_getD, List.getElem?_eq_getElem hlt', Option.getD_some] at h1 ⊢
      by_cases hp : 0 ≤ places[i] ∧ places[i] < 32
      · rw [if_pos hp]
        exact ⟨i, rfl, hlt', places[i].toNat, by omega, rfl⟩
      · rw [if_neg hp] at h1; cases h1
    · rw [if_neg hlt] at h1; cases h1)
  obtain ⟨pl, hpl⟩ : ∃ pl, plM places = pl := ⟨_, rfl⟩
  rw [hpl] at hC HPm ⊢
  clear hpl hok
  have h1 := ba w (xbox h A l.length cap)
  have h2 := bt h1 (ba _ x0)
  have HX0 := Lib.hid (((ba (w.alloc (xbox h A l.length cap)) x0).block _ (by simp)).trans (MapKept.heap_alloc w (xbox h A l.length cap)).1)
  have HZ0 := Lib.hid (show ((w.alloc (xbox h A l.length cap)).alloc x0).heap[w.heap.size + 1]? = some x0 by
    have := (MapKept.heap_alloc (w.alloc (xbox h A l.length cap)) x0).1
    rwa [World.size_alloc] at this)
  have HB0 := Lib.hid h2
  have HS0 := Lib.hid (show w.heap.size + 1 < ((w.alloc (xbox h A l.length cap)).alloc x0).heap.size by simp)
  have HXs := Lib.hid (XsAt.next hX h2)
  have HI := Lib.hid hC
  have HXw := Lib.hid (show XsB (fun k => k < w.heap.size) ((w.alloc (xbox h A l.length cap)).alloc x0) l A from XsB.go (fun k hk => h2.block k hk) (fun _ hk => hk) _ _ hX)
  have HIn := Lib.hid (hIn.kept h2)
  obtain ⟨Y, hY⟩ : ∃ Y, rbX pl (.mk h l) = Y := ⟨_, rfl⟩
  rw [hY]
  clear hIn
  have HY := Lib.hid hY
  clear h1 h2 hX hC hY
  obtain ⟨k, n, vk, vn, vs, tb, cl⟩ := h
  by_cases hk : k = 2
  · subst hk
    obtain ⟨i, rfl, hi3, m0, hm0, hm1⟩ := HPm.out rfl
    obtain ⟨m, hm⟩ : ∃ m : Int, m = (m0 : Nat) := ⟨_, rfl⟩
    have HRb := Lib.hid (show rbX pl (.mk ⟨2, (i : Nat), vk, vn, vs, tb, cl⟩ l) = .mk ⟨2, m, vk, vn, vs, tb, cl⟩ (rbXs pl l) by rw [rbX, rbH, if_pos rfl, hm1, hm]; rfl)
    obtain ⟨b4, off4, rfl, hb4, c0⟩ := HIn.out.at hi3
    rw [hm0, ← hm] at c0
    clear hm hm0 hm1 HPm HIn
    go_enter Tryz.func39, Tryz.ntmps39
    go_upto_region 1 with fail
    generalize (w.alloc (.cells #[.int .i64 2, .int .i64 (i : Nat), .int .i64 vk, .int .i64 vn, .string vs, .string tb, .string cl, .slice A l.length cap] 35)).alloc (.cells #[.int .i64 0, .int .i64 0, .int .i64 0, .int .i64 0, .string ⟨#[]⟩, .string ⟨#[]⟩, .string ⟨#[]⟩, .slice none 0 0] 35) = W0 at HX0 HZ0 HB0 HS0 HXs HXw c0 hb4 ⊢
    obtain ⟨⟨x0, x1, x2, x3, x4, x5, x6, x7⟩, f0, f1, f2, f3, f4, f5, f6, f7⟩ := cell8 HX0.out
    have HN0 := Lib.hid (setN_box HX0.out m)
    have HN1 := Lib.hid ((setc_other (W := W0) (U := w.heap.size) (j := 1) (k := w.heap.size + 1) (by omega) (.int .i64 m)).trans HZ0.out)
    have HN2 := Lib.hid (HB0.out.setCell (p := ⟨w.heap.size, 1, none⟩) (Nat.le_refl _) (.int .i64 m))
    have HN3 := Lib.hid (show w.heap.size + 1 < (W0.setCell ⟨w.heap.size, 1, none⟩ (.int .i64 m)).heap.size by rw [setc_size]; exact HS0.out)
    have HN4 := Lib.hid (show XsAt (W0.setCell ⟨w.heap.size, 1, none⟩ (.int .i64 m)).heap.size (W0.setCell ⟨w.heap.size, 1, none⟩ (.int .i64 m)) l A from XsB.go (fun k hk => setc_other (show k ≠ w.heap.size from Nat.ne_of_lt hk) _) (fun k hk => by rw [setc_size]; have h9 : k < w.heap.size := hk; have := HS0.out; omega) _ _ HXw.out)
    go_upto_region 3 with fail
    generalize W0.setCell ⟨w.heap.size, 1, none⟩ (.int .i64 m) = W9 at HN0 HN1 HN2 HN3 HN4 ⊢
    clear x0 x1 x2 x3 x4 x5 x6 x7 f0 f1 f2 f3 f4 f5 f6 f7 HX0 HZ0 HB0 HS0 HXs HXw c0 hb4
    clear W0
    obtain ⟨W0, rfl⟩ : ∃ W, W = W9 := ⟨_, rfl⟩
    have HX0 := HN0
    have HZ0 := HN1
    have HB0 := HN2
    have HS0 := HN3
    have HXs := HN4
    clear HN0 HN1 HN2 HN3 HN4
    obtain ⟨⟨x0, x1, x2, x3, x4, x5, x6, x7⟩, _⟩ := cell8 HX0.out
    go_wp2_with fail
    clear x0 x1 x2 x3 x4 x5 x6 x7
    go_loopw [6, 5] (fun i v W => ∃ (j : Nat), j ≤ l.length ∧ i = .int .i64 j ∧ Hid (Xown W0.heap.size W0 W v (rbXs pl (l.take j)))) (fun i _ _ => l.length - (intOf i).toNat)
    case atStart => exact ⟨0, Nat.zero_le _, rfl, Lib.hid (by rw [List.take_zero, rbXs]; exact Xown.nil _)⟩
    case round =>
      obtain ⟨j, hj, rfl, HW⟩ := hrel
      obtain ⟨la, hla⟩ : ∃ la, rbXs pl (l.take j) = la := ⟨_, rfl⟩
      rw [hla] at HW
      have HLa := Lib.hid hla
      have hkl : la.length = j := by rw [← hla, rbXs_len, List.length_take]; omega
      clear hla
      obtain ⟨AS, capS, hv⟩ := HW.out.slice
      rw [hkl] at hv
      subst hv
      have HX1 := Lib.hid ((HW.out.bel.block _ (by have := HS0.out; omega)).trans HX0.out)
      have HZ1 := Lib.hid ((HW.out.bel.block _ HS0.out).trans HZ0.out)
      by_cases hjn : j < l.length
      · obtain ⟨x, hx⟩ : ∃ x, l[j]? = some x := ⟨_, List.getElem?_eq_getElem hjn⟩
        obtain ⟨h2, l2⟩ := x
        have hT : l.take (j + 1) = l.take j ++ [.mk h2 l2] := by rw [List.take_add_one, hx]; rfl
        have HT := Lib.hid (show rbXs pl (l.take (j + 1)) = la ++ [rbX pl (.mk h2 l2)] by rw [hT, rbXs_app, HLa.out])
        obtain ⟨g, off, A', cap', rfl, hg, hX, hle', hl'⟩ := HXs.out.at hx
        have hXr := hX.of (HW.out.bel.block g hg)
        obtain ⟨c0, c1, c2, c3, c4, c5, c6, c7⟩ := hXr
        obtain ⟨⟨e0, e1, e2, e3, e4, e5, e6, e7⟩, _⟩ := cell8 HX1.out
        have hb1 := HW.out.bel
        have hC1 := HI.out j h2 l2 hx wr (bt HB0.out hb1) A' cap' (XsAt.next hl' hb1) hle'
        obtain ⟨y, hy⟩ : ∃ y, rbX pl (.mk h2 l2) = y := ⟨_, rfl⟩
        rw [hy] at hC1 HT
        obtain ⟨hY, lY⟩ := y
        have HC := Lib.hid hC1
        have hws : W0.heap.size ≤ wr.heap.size := hb1.size
        clear hX hl' hx hg hT hb1 hC1 hy hle'
        go_wp2_with fail
        refine HC.out.mono ?_
        rintro e w3 ⟨A3, cap3, rfl, hle3, hx3, hb3⟩
        simp only [Ex.hd, Ex.kids] at hle3 hx3 ⊢
        have H3 := Lib.hid (HW.out.below hb3)
        have HX3 := Lib.hid (show XsB (Ot W0.heap.size w3 (.slice AS j capS)) w3 lY A3 from
          XsB.go (fun k hk => rfl) (fun k hk => ⟨by have := hk.1; omega, hk.2, fun e => by
            obtain ⟨q0, hq0⟩ := HW.out.row
            have := (hq0.2.lt k e).2
            have h2 := hk.1; omega⟩) _ _ hx3)
        have HLE3 := Lib.hid hle3
        clear hb3 hx3 hle3 c0 c1 c2 c3 c4 c5 c6 c7 e0 e1 e2 e3 e4 e5 e6 e7 HC
        obtain ⟨q9, hq⟩ := H3.out.row
        have hq2 := hq.2
        rw [hkl] at hq2
        have HQ2 := Lib.hid hq2
        have HH3 := Lib.hid (show ∀ o v' w', w'.ownsRow W0.heap.size 35 8 v' (j + 1) (xcells q9 ++ xcell (hY, A3, lY.length, cap3)) → (w3.alloc o).grownBy w' (Value.ownBlock (.slice AS j capS)) →
            (v'.ownBlock = Value.ownBlock (.slice AS j capS) ∨ v'.ownBlock = some (w3.heap.size + 1)) → Xown W0.heap.size W0 w' v' (la ++ [.mk hY lY]) from fun o v' w' ho hg hat =>
          H3.out.grow hq (e := .mk hY lY) (x := (hY, A3, lY.length, cap3)) ⟨rfl, rfl, HLE3.out, HX3.out⟩ (by rw [hkl]; exact ho) hg (by rw [World.size_alloc]; exact hat))
        have HLE := Lib.hid H3.out.le
        clear hq2 hq
        go_wp2_with (at_builtin; refine wpList_append_own_at _ rfl _ _ 33 rfl W0.heap.size 35 i0 _ 8 104 Tryz.underlying33 hi hz0 hz1 hz2 rfl (by decide) _ _ _ rfl (HQ2.out.alloc _) ⟨w3.heap.size, 0, none⟩ 1 1 (xcell (hY, A3, lY.length, cap3)) rfl rfl (xnews _ _ _) (xcell_one _) ?c3 ?c4 ?c5 ?_)
        case c3 => unfold maxLen; omega
        case c4 => omega
        case c5 => have := HLE.out; simp; omega
        intro v' w4 hown' hg4 _ hat
        have HG := Lib.hid (HH3.out _ _ _ hown' hg4 hat)
        clear hown' hg4 hat
        go_wp2_with fail
        go_roundw
        case rel => exact ⟨j + 1, by omega, by go_num, by rw [HT.out]; exact HG⟩
        case measure => simp [intOf]; omega
      · obtain rfl : j = l.length := by omega
        have hlb : rbXs pl l = la := by have := HLa.out; rwa [List.take_length] at this
        obtain rfl : Y = .mk ⟨2, m, vk, vn, vs, tb, cl⟩ la := HY.out.symm.trans (by rw [HRb.out, hlb])
        obtain ⟨A3, cap3, hv3, hle3, hx3⟩ := HW.out.xsB
        rw [hkl] at hv3 hle3
        obtain ⟨rfl, _, rfl⟩ := Value.slice.inj hv3
        have HLE := Lib.hid hle3
        have HKL := Lib.hid hkl
        have HX4a := Lib.hid (setL_box HX1.out AS l.length capS)
        have HZ4a := Lib.hid ((setc_other (W := wr) (U := w.heap.size) (j := 7) (k := w.heap.size + 1) (by omega) (.slice AS l.length capS)).trans HZ1.out)
        have HB4a := Lib.hid ((bt HB0.out HW.out.bel).setCell (p := ⟨w.heap.size, 7, none⟩) (Nat.le_refl _) (.slice AS l.length capS))
        obtain ⟨⟨y0, y1, y2, y3, y4, y5, y6, y7⟩, f0, f1, f2, f3, f4, f5, f6, f7⟩ := cell8 HX1.out
        have HXX := Lib.hid (show XsB (fun k => W0.heap.size ≤ k ∧ k < (wr.setCell ⟨w.heap.size, 7, none⟩ (.slice AS l.length capS)).heap.size) (wr.setCell ⟨w.heap.size, 7, none⟩ (.slice AS l.length capS)) la AS from XsB.go (fun k hk => setc_other (by have := HS0.out; have := hk.1; simp; omega) _) (fun k hk => ⟨hk.1, by rw [setc_size]; exact hk.2⟩) _ _ hx3)
        clear hv3 hle3 hx3 hlb hkl HX1 HZ1
        go_upto_region 9 with fail
        generalize wr.setCell ⟨w.heap.size, 7, none⟩ (.slice AS l.length capS) = W4 at HX4a HZ4a HB4a HXX ⊢
        clear y0 y1 y2 y3 y4 y5 y6 y7 f0 f1 f2 f3 f4 f5 f6 f7 HW
        obtain ⟨⟨y0, y1, y2, y3, y4, y5, y6, y7⟩, _⟩ := cell8 HX4a.out
        obtain ⟨⟨z0, z1, z2, z3, z4, z5, z6, z7⟩, g0, g1, g2, g3, g4, g5, g6, g7⟩ := cell8 HZ4a.out
        have HZ := Lib.hid (set8_box HZ4a.out (.int .i64 2) (.int .i64 m) (.int .i64 vk) (.int .i64 vn) (.string vs) (.string tb) (.string cl) (.slice AS l.length capS))
        go_wp2_with fail
        obtain ⟨⟨q0, q1, q2, q3, q4, q5, q6, q7⟩, _⟩ := cell8 HZ.out
        refine bodyPost_ret (v := XV ⟨2, m, vk, vn, vs, tb, cl⟩ AS l.length capS) (by simp [results, Tryz.results39, go_sem, q0, q1, q2, q3, q4, q5, q6, q7]) rfl ⟨AS, capS, by rw [← HKL.out]; rfl, by show la.length ≤ capS; rw [HKL.out]; exact HLE.out, ?_, ?_⟩
        · exact XsB.go (fun k hk => set8_other (by have := HS0.out; have := hk.1; omega) _ _ _ _ _ _ _ _) (fun k hk => ⟨by have := HS0.out; have := hk.1; omega, by rw [set8_size]; exact hk.2⟩) _ _ HXX.out
        · exact set8_below HB4a.out (by omega) _ _ _ _ _ _ _ _
  · have hkb : (k == 2) = false := by simpa using hk
    have HRb := Lib.hid (show rbX pl (.mk ⟨k, n, vk, vn, vs, tb, cl⟩ l) = .mk ⟨k, n, vk, vn, vs, tb, cl⟩ (rbXs pl l) by rw [rbX, rbH, if_neg hk])
    clear hk HIn HPm
    go_enter Tryz.func39, Tryz.ntmps39
    go_upto_region 1 with fail
    generalize (w.alloc (.cells #[.int .i64 k, .int .i64 n, .int .i64 vk, .int .i64 vn, .string vs, .string tb, .string cl, .slice A l.length cap] 35)).alloc (.cells #[.int .i64 0, .int .i64 0, .int .i64 0, .int .i64 0, .string ⟨#[]⟩, .string ⟨#[]⟩, .string ⟨#[]⟩, .slice none 0 0] 35) = W0 at HX0 HZ0 HB0 HS0 HXs HXw ⊢
    obtain ⟨⟨x0, x1, x2, x3, x4, x5, x6, x7⟩, f0, f1, f2, f3, f4, f5, f6, f7⟩ := cell8 HX0.out
    go_wp2_with fail
    clear x0 x1 x2 x3 x4 x5 x6 x7 f0 f1 f2 f3 f4 f5 f6 f7 HXw
    go_loopw [6, 5] (fun i v W => ∃ (j : Nat), j ≤ l.length ∧ i = .int .i64 j ∧ Hid (Xown W0.heap.size W0 W v (rbXs pl (l.take j)))) (fun i _ _ => l.length - (intOf i).toNat)
    case atStart => exact ⟨0, Nat.zero_le _, rfl, Lib.hid (by rw [List.take_zero, rbXs]; exact Xown.nil _)⟩
    case round =>
      obtain ⟨j, hj, rfl, HW⟩ := hrel
      obtain ⟨la, hla⟩ : ∃ la, rbXs pl (l.take j) = la := ⟨_, rfl⟩
      rw [hla] at HW
      have HLa := Lib.hid hla
      have hkl : la.length = j := by rw [← hla, rbXs_len, List.length_take]; omega
      clear hla
      obtain ⟨AS, capS, hv⟩ := HW.out.slice
      rw [hkl] at hv
      subst hv
      have HX1 := Lib.hid ((HW.out.bel.block _ (by have := HS0.out; omega)).trans HX0.out)
      have HZ1 := Lib.hid ((HW.out.bel.block _ HS0.out).trans HZ0.out)
      by_cases hjn : j < l.length
      · obtain ⟨x, hx⟩ : ∃ x, l[j]? = some x := ⟨_, List.getElem?_eq_getElem hjn⟩
        obtain ⟨h2, l2⟩ := x
        have hT : l.take (j + 1) = l.take j ++ [.mk h2 l2] := by rw [List.take_add_one, hx]; rfl
        have HT := Lib.hid (show rbXs pl (l.take (j + 1)) = la ++ [rbX pl (.mk h2 l2)] by rw [hT, rbXs_app, HLa.out])
        obtain ⟨g, off, A', cap', rfl, hg, hX, hle', hl'⟩ := HXs.out.at hx
        have hXr := hX.of (HW.out.bel.block g hg)
        obtain ⟨c0, c1, c2, c3, c4, c5, c6, c7⟩ := hXr
        obtain ⟨⟨e0, e1, e2, e3, e4, e5, e6, e7⟩, _⟩ := cell8 HX1.out
        have hb1 := HW.out.bel
        have hC1 := HI.out j h2 l2 hx wr (bt HB0.out hb1) A' cap' (XsAt.next hl' hb1) hle'
        obtain ⟨y, hy⟩ : ∃ y, rbX pl (.mk h2 l2) = y := ⟨_, rfl⟩
        rw [hy] at hC1 HT
        obtain ⟨hY, lY⟩ := y
        have HC := Lib.hid hC1
        have hws : W0.heap.size ≤ wr.heap.size := hb1.size
        clear hX hl' hx hg hT hb1 hC1 hy hle'
        go_wp2_with fail
        refine HC.out.mono ?_
        rintro e w3 ⟨A3, cap3, rfl, hle3, hx3, hb3⟩
        simp only [Ex.hd, Ex.kids] at hle3 hx3 ⊢
        have H3 := Lib.hid (HW.out.below hb3)
        have HX3 := Lib.hid (show XsB (Ot W0.heap.size w3 (.slice AS j capS)) w3 lY A3 from
          XsB.go (fun k hk => rfl) (fun k hk => ⟨by have := hk.1; omega, hk.2, fun e => by
            obtain ⟨q0, hq0⟩ := HW.out.row
            have := (hq0.2.lt k e).2
            have h2 := hk.1; omega⟩) _ _ hx3)
        have HLE3 := Lib.hid hle3
        clear hb3 hx3 hle3 c0 c1 c2 c3 c4 c5 c6 c7 e0 e1 e2 e3 e4 e5 e6 e7 HC
        obtain ⟨q9, hq⟩ := H3.out.row
        have hq2 := hq.2
        rw [hkl] at hq2
        have HQ2 := Lib.hid hq2
        have HH3 := Lib.hid (show ∀ o v' w', w'.ownsRow W0.heap.size 35 8 v' (j + 1) (xcells q9 ++ xcell (hY, A3, lY.length, cap3)) → (w3.alloc o).grownBy w' (Value.ownBlock (.slice AS j capS)) →
            (v'.ownBlock = Value.ownBlock (.slice AS j capS) ∨ v'.ownBlock = some (w3.heap.size + 1)) → Xown W0.heap.size W0 w' v' (la ++ [.mk hY lY]) from fun o v' w' ho hg hat =>
          H3.out.grow hq (e := .mk hY lY) (x := (hY, A3, lY.length, cap3)) ⟨rfl, rfl, HLE3.out, HX3.out⟩ (by rw [hkl]; exact ho) hg (by rw [World.size_alloc]; exact hat))
        have HLE := Lib.hid H3.out.le
        clear hq2 hq
        go_wp2_with (at_builtin; refine wpList_append_own_at _ rfl _ _ 33 rfl W0.heap.size 35 i0 _ 8 104 Tryz.underlying33 hi hz0 hz1 hz2 rfl (by decide) _ _ _ rfl (HQ2.out.alloc _) ⟨w3.heap.size, 0, none⟩ 1 1 (xcell (hY, A3, lY.length, cap3)) rfl rfl (xnews _ _ _) (xcell_one _) ?c3 ?c4 ?c5 ?_)
        case c3 => unfold maxLen; omega
        case c4 => omega
        case c5 => have := HLE.out; simp; omega
        intro v' w4 hown' hg4 _ hat
        have HG := Lib.hid (HH3.out _ _ _ hown' hg4 hat)
        clear hown' hg4 hat
        go_wp2_with fail
        go_roundw
        case rel => exact ⟨j + 1, by omega, by go_num, by rw [HT.out]; exact HG⟩
        case measure => simp [intOf]; omega
      · obtain rfl : j = l.length := by omega
        have hlb : rbXs pl l = la := by have := HLa.out; rwa [List.take_length] at this
        obtain rfl : Y = .mk ⟨k, n, vk, vn, vs, tb, cl⟩ la := HY.out.symm.trans (by rw [HRb.out, hlb])
        obtain ⟨A3, cap3, hv3, hle3, hx3⟩ := HW.out.xsB
        rw [hkl] at hv3 hle3
        obtain ⟨rfl, _, rfl⟩ := Value.slice.inj hv3
        have HLE := Lib.hid hle3
        have HKL := Lib.hid hkl
        have HX4a := Lib.hid (setL_box HX1.out AS l.length capS)
        have HZ4a := Lib.hid ((setc_other (W := wr) (U := w.heap.size) (j := 7) (k := w.heap.size + 1) (by omega) (.slice AS l.length capS)).trans HZ1.out)
        have HB4a := Lib.hid ((bt HB0.out HW.out.bel).setCell (p := ⟨w.heap.size, 7, none⟩) (Nat.le_refl _) (.slice AS l.length capS))
        obtain ⟨⟨y0, y1, y2, y3, y4, y5, y6, y7⟩, f0, f1, f2, f3, f4, f5, f6, f7⟩ := cell8 HX1.out
        have HXX := Lib.hid (show XsB (fun k => W0.heap.size ≤ k ∧ k < (wr.setCell ⟨w.heap.size, 7, none⟩ (.slice AS l.length capS)).heap.size) (wr.setCell ⟨w.heap.size, 7, none⟩ (.slice AS l.length capS)) la AS from XsB.go (fun k hk => setc_other (by have := HS0.out; have := hk.1; simp; omega) _) (fun k hk => ⟨hk.1, by rw [setc_size]; exact hk.2⟩) _ _ hx3)
        clear hv3 hle3 hx3 hlb hkl HX1 HZ1
        go_upto_region 9 with fail
        generalize wr.setCell ⟨w.heap.size, 7, none⟩ (.slice AS l.length capS) = W4 at HX4a HZ4a HB4a HXX ⊢
        clear y0 y1 y2 y3 y4 y5 y6 y7 f0 f1 f2 f3 f4 f5 f6 f7 HW
        obtain ⟨⟨y0, y1, y2, y3, y4, y5, y6, y7⟩, _⟩ := cell8 HX4a.out
        obtain ⟨⟨z0, z1, z2, z3, z4, z5, z6, z7⟩, g0, g1, g2, g3, g4, g5, g6, g7⟩ := cell8 HZ4a.out
        have HZ := Lib.hid (set8_box HZ4a.out (.int .i64 k) (.int .i64 n) (.int .i64 vk) (.int .i64 vn) (.string vs) (.string tb) (.string cl) (.slice AS l.length capS))
        go_wp2_with fail
        obtain ⟨⟨q0, q1, q2, q3, q4, q5, q6, q7⟩, _⟩ := cell8 HZ.out
        refine bodyPost_ret (v := XV ⟨k, n, vk, vn, vs, tb, cl⟩ AS l.length capS) (by simp [results, Tryz.results39, go_sem, q0, q1, q2, q3, q4, q5, q6, q7]) rfl ⟨AS, capS, by rw [← HKL.out]; rfl, by show la.length ≤ capS; rw [HKL.out]; exact HLE.out, ?_, ?_⟩
        · exact XsB.go (fun k hk => set8_other (by have := HS0.out; have := hk.1; omega) _ _ _ _ _ _ _ _) (fun k hk => ⟨by have := HS0.out; have := hk.1; omega, by rw [set8_size]; exact hk.2⟩) _ _ HXX.out
        · exact set8_below HB4a.out (by omega) _ _ _ _ _ _ _ _
end Go.Proofs.YtofhaokaldpmaaaGreatDoor
end
