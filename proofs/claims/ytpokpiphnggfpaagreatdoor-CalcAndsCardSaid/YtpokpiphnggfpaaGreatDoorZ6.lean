/-
  Check, Size, Depth, Safe.
Plain: a text with each quote doubled is what ReplaceAll makes of it; digits of numbers. Nothing of the program stands here.
The contract of value.Show, over the library's ReplaceAll and Itoa.
show.
show, Show.
Which expressions may be, plainly, level by level: as the program's fold has it.
Plain: rows of values in memory. Nothing of the program stands here.
What expressions come to, plainly.
-/
import Derived.Test.YtpokpiphnggfpaaGreatDoorZ5
import Derived.Lib.Replace
import Derived.Lib.IndexBytes
import Derived.Lib.ItoaNum
import Derived.Lib.LaidTab
import Derived.Sort.Grow
import Derived.WalkSmall
import Derived.Deep.RegionHeld3
import Derived.Lib.Hide
section
namespace Go.Proofs.YtpokpiphnggfpaaGreatDoor
open Go.RowKit Go.Shelf
attribute [local go_sem] Oper.semAt_some

def chkI (x : Ex) : Int := if (measO x).isSome then 0 else 100
def sizI (x : Ex) : Int := match measO x with | some (s, _) => s | none => 0
def depI (x : Ex) : Int := match measO x with | some (_, d) => d | none => 0
theorem xcheck_any (h : Hd) (lk : List Ex) (A : Option Addr) (cap : Nat) (w : World) (hX : XsAt w.heap.size w lk A) (hcap : lk.length ≤ cap) (hsm : AllSm (.mk h lk)) (hc : cnt (.mk h lk) ≤ 999999) (hT : Tabs w) :
    Calls Tryz.prog 41 #[XV h A lk.length cap] w fun e w' => e = .returned (.int .i64 (chkI (.mk h lk))) ∧ Below w.heap.size w w' := by
  have HC := Lib.hid (measure_any h lk A cap (w.alloc (xbox h A lk.length cap)) (hX.next (ba w _)) hcap hsm hc (hT.kept (ba w _)))
  have HB := Lib.hid (ba w (xbox h A lk.length cap))
  clear hX hT
  cases hm : measO (.mk h lk) with
  | none =>
    have HV := Lib.hid (show measV (.mk h lk) = .tuple #[.int .i64 0, .int .i64 0, .bool false] by simp [measV, hm])
    have HM := Lib.hid hm
    rw [HV.out] at HC
    clear hm
    go_enter Tryz.func41, Tryz.ntmps41
    go_wp2_with fail
    refine HC.out.mono ?_
    rintro e w1 ⟨rfl, hb⟩
    have HB2 := Lib.hid (bt HB.out hb)
    clear hb
    go_wp2_with fail
    go_ret
    exact ⟨by simp [chkI, HM.out], HB2.out⟩
  | some sd =>
    obtain ⟨s, d⟩ := sd
    have HV := Lib.hid (show measV (.mk h lk) = .tuple #[.int .i64 s, .int .i64 d, .bool true] by simp [measV, hm])
    have HM := Lib.hid hm
    rw [HV.out] at HC
    clear hm
    go_enter Tryz.func41, Tryz.ntmps41
    go_wp2_with fail
    refine HC.out.mono ?_
    rintro e w1 ⟨rfl, hb⟩
    have HB2 := Lib.hid (bt HB.out hb)
    clear hb
    go_wp2_with fail
    go_ret
    exact ⟨by simp [chkI, HM.out], HB2.out⟩
/-- May it err? -/
def errB (h : Hd) : Bool := h.k == 4 || (h.k == 3 && (decide (10 ≤ h.n) && decide (h.n ≤ 15)))
theorem mayErr_any (h : Hd) (A : Option Addr) (len cap : Nat) (w : World) :
    Calls Tryz.prog 55 #[XV h A len cap] w fun e w' => e = .returned (.bool (errB h)) ∧ Below w.heap.size w w' := by
  obtain ⟨k, n, vk, vn, vs, tab, col⟩ := h

  go_enter Tryz.func55, Tryz.ntmps55
  go_wp2
  all_goals
    go_ret
    exact ⟨ret_bool (by simp_all [errB] <;> (intros; omega)), ba w _⟩
def safeB (x : Ex) : Bool := (measO x).isSome && (preo x 1).all fun y => !errB y.1.hd

set_option maxRecDepth 100000 in
set_option maxHeartbeats 8000000 in
theorem safe_any (h : Hd) (lk : List Ex) (A : Option Addr) (cap : Nat) (w : World) (hX : XsAt w.heap.size w lk A) (hcap : lk.length ≤ cap) (hsm : AllSm (.mk h lk)) (hc : cnt (.mk h lk) ≤ 999999) (hT : Tabs w) :
    Calls Tryz.prog 40 #[XV h A lk.length cap] w fun e w' => e = .returned (.bool (safeB (.mk h lk))) ∧ Below w.heap.size w w' := by
  have hba : Below w.heap.size w ((w.alloc (xbox h A lk.length cap)).alloc (.cells #[.bool false] 4)) := ba2 w _ _
  have HCk := Lib.hid (xcheck_any h lk A cap ((w.alloc (xbox h A lk.length cap)).alloc (.cells #[.bool false] 4)) (hX.next hba) hcap hsm hc (hT.kept hba))
  have HBa := Lib.hid hba
  have HX0 := Lib.hid (((ba (w.alloc (xbox h A lk.length cap)) (.cells #[.bool false] 4)).block w.heap.size (by rw [World.size_alloc]; omega)).trans (MapKept.heap_alloc w (xbox h A lk.length cap)).1)
  have HR0 := Lib.hid (show Boxed ((w.alloc (xbox h A lk.length cap)).alloc (.cells #[.bool false] 4)) (w.heap.size + 1) 4 (.bool false) by have := Boxed.new (w.alloc (xbox h A lk.length cap)) 4 (.bool false); rwa [World.size_alloc] at this)
  have HXs := Lib.hid hX
  have HSm := Lib.hid hsm
  have HS2 := Lib.hid (show ((w.alloc (xbox h A lk.length cap)).alloc (.cells #[.bool false] 4)).heap.size = w.heap.size + 1 + 1 by simp)
  clear hX hT hsm hba
  refine (callsIn_wide (n := 9)).1 ?_
  refine callsIn_of_wp_marks Tryz.func40 rfl trivial ?_ rfl
  simp only [Tryz.ntmps40, List.size_toArray, List.length_cons, List.length_nil, Nat.reduceAdd, Nat.reduceSub, Array.replicate_succ, Array.replicate_zero, List.push_toArray, List.append_toArray, List.nil_append, List.cons_append]
  cases hm : (measO (.mk h lk)).isSome
  · have HV := Lib.hid (show chkI (.mk h lk) = 100 by rw [chkI, hm]; rfl)
    have HM := Lib.hid hm
    rw [HV.out] at HCk
    clear hm
    gi_wp2_with ((try refine ⟨trivial, ?_⟩); gi_at_call 41; refine (callsIn_wide.2 HCk.out).mono ?_; rintro e W1 ⟨rfl, hb⟩; have HB1 := Lib.hid (bt HBa.out hb); have hr := boxed_below HR0.out hb; have r1 := hr.cell; have r2 := hr.frozen; have HR1 := Lib.hid hr; clear hb hr)
    have q1 := (HR1.out.set (.bool false)).cell
    refine ⟨.bool (safeB (.mk h lk)), ?_, rfl, ?_⟩
    · rw [show safeB (.mk h lk) = false by rw [safeB, HM.out]; rfl]; simp [results, Tryz.results40, go_sem, q1]
    · exact HB1.out.setCell (p := ⟨w.heap.size + 1, 0, none⟩) (by simp) _
  · have HV := Lib.hid (show chkI (.mk h lk) = 0 by rw [chkI, hm]; rfl)
    have HM := Lib.hid hm
    rw [HV.out] at HCk
    clear hm
    gi_wp2_with (first
      | ((try refine ⟨trivial, ?_⟩); gi_at_call 41; refine (callsIn_wide.2 HCk.out).mono ?_; rintro e W1 ⟨rfl, hb⟩; have HB1 := Lib.hid (bt HBa.out hb); have hr := boxed_below HR0.out hb; have hx1 := (hb.block w.heap.size (by rw [HS2.out]; omega)).trans HX0.out; obtain ⟨⟨x0, x1, x2, x3, x4, x5, x6, x7⟩, _⟩ := cell8 hx1; have HSz := Lib.hid hb.size; have HR1 := Lib.hid hr; clear hb hr hx1)
      | ((try refine ⟨trivial, ?_⟩); gi_at_call 54; refine (through_in Fence.wide _ trivial rfl _ _ _ _ _).mono ?_; rintro e w' ⟨rfl, rfl⟩))
    have bR := HR1.out.alloc (xbox h A lk.length cap)
    have bX := (MapKept.heap_alloc W1 (xbox h A lk.length cap)).1
    have hB0 := bt HB1.out (ba W1 (xbox h A lk.length cap))
    have hsz : w.heap.size + 2 ≤ W1.heap.size := by have := HSz.out; rw [HS2.out] at this; omega
    have hsz0 : (W1.alloc (xbox h A lk.length cap)).heap.size = W1.heap.size + 1 := by simp
    obtain ⟨W0, hW0⟩ : ∃ W0, W1.alloc (xbox h A lk.length cap) = W0 := ⟨_, rfl⟩
    rw [hW0] at bR bX hB0 hsz0 ⊢
    obtain ⟨u1, hu1⟩ : ∃ u, w.heap.size + 1 = u := ⟨_, rfl⟩
    obtain ⟨u5, hu5⟩ : ∃ u, W1.heap.size = u := ⟨_, rfl⟩
    rw [hu1] at bR ⊢
    rw [hu5] at bX hsz hsz0 ⊢
    clear hW0 HR1 HSz HB1 x0 x1 x2 x3 x4 x5 x6 x7 hu5
    obtain ⟨S, hSd⟩ : ∃ S : Nat → Prop, (fun k => k = u1) = S := ⟨_, rfl⟩
    have hSi : ∀ k, S k ↔ k = u1 := fun k => by rw [← hSd]
    have hS1 : S u1 := (hSi _).2 rfl
    have hSB : ∀ k, S k → k < W0.heap.size := fun k hk => by have := (hSi k).1 hk; omega
    have hSU : ∀ k, S k → w.heap.size ≤ k := fun k hk => by have := (hSi k).1 hk; omega
    have hX0 : XsAt w.heap.size W0 lk A := HXs.out.kept hB0
    have own1 : ∀ {X Y : World} {row : Option Nat} {B : Nat} {t : TypeId} {v : Value}, Boxed X B t v → X.grownBy Y row → (∀ r, row = some r → W0.heap.size ≤ r ∧ ∃ o : Obj, X.heap[r]? = some o ∧ o.isCells = false) → Boxed Y B t v :=
      fun hb hg hr => boxed_own _ _ (fun (_ : Unit) => _) () _ _ _ hb hg (fun r e => (hr r e).2)
    have ownB := @ownFrom_below Unit w.heap.size W0.heap.size w (Nat.le_refl _) (by omega)
    refine wpIn_rangeFunc_ownH rfl (by omega) (gf := 71) (lb := #[.pointer (some ⟨u5, 0, none⟩)]) rfl trivial (enters_of Tryz.func71 (by kernel_rfl) rfl)
      (through_stops Fence.wide rfl _ trivial trivial rfl u5 w.heap.size S (fun _ => False) (fun _ _ _ _ h => h) W0 ⟨⟨.mk h lk, A, cap, 1⟩, ⟨hX0, hcap, HSm.out, by simp only; omega⟩⟩ rfl (by omega) (by omega) hSB bX) KpS.trans (kpS_put (by omega)) (Below.refl _ _) (fun _ => rfl)
      (fun pre W => (pre.map ndp).all (fun y => !errB y.1.hd) = true ∧ (∃ b, Boxed W u1 4 (.bool b)) ∧ Below w.heap.size w W ∧ W0.heap.size ≤ W.heap.size)
      (fun c pre W => c = .ret ∧ (pre.map ndp).all (fun y => !errB y.1.hd) = false ∧ Boxed W u1 4 (.bool false) ∧ Below w.heap.size w W)
      (fun pre X Y row hs hg hr => by
        obtain ⟨h1, ⟨b, h2⟩, h3, h4⟩ := hs
        exact ⟨h1, ⟨b, own1 h2 hg hr⟩, ownB () X Y row h3 hg hr, Nat.le_trans h4 hg.size⟩)
      (fun c pre X Y row hs hg hr => by
        obtain ⟨h0, h1, h2, h3⟩ := hs
        exact ⟨h0, h1, own1 h2 hg hr, ownB () X Y row h3 hg hr⟩)
      ⟨rfl, ⟨_, bR⟩, hB0, Nat.le_refl _⟩
      (fun x a' W => ∃ Bx, u1 < Bx ∧ W.heap[Bx]? = some (xbox x.1.ex.hd x.1.A x.1.ex.kids.length x.1.cap) ∧
        a' = { tmps := #[XV h A lk.length cap, .pointer (some ⟨w.heap.size, 0, none⟩), .pointer (some ⟨u1, 0, none⟩), .pointer (some ⟨Bx, 0, none⟩), XV h A lk.length cap, .int .i64 0, .bool false, XV h A lk.length cap, .func (.func 71) #[] #[.pointer (some ⟨u5, 0, none⟩)], XV x.1.ex.hd x.1.A x.1.ex.kids.length x.1.cap, .int .i64 x.1.lv, undef, undef], defers := [] })
      (fun x a' _ X Y row hs hg hr => by
        obtain ⟨Bx, h1, h2, h3⟩ := hs
        refine ⟨Bx, h1, (hg.block Bx (Array.getElem?_eq_some_iff.1 h2).1 (fun e => ?_)).trans h2, h3⟩
        obtain ⟨_, o, ho, hoc⟩ := hr Bx e.symm
        rw [h2] at ho; cases ho; cases hoc)
      ?assign ?body ?done ?stop
    case assign =>
      rintro l pre x W K ⟨h1, ⟨b, h2⟩, h3, h4⟩ hK
      gi_wp2
      exact hK _ _ ((KeepsOthers.alloc _ _).from _) ((Rd.of (S := S) (ba W _)).kp hSU (by omega)) ⟨h1, ⟨b, boxed_below h2 (ba W _)⟩, bt' h3 (ba W _), by rw [World.size_alloc]; omega⟩ ⟨W.heap.size, by have := h2.lt; omega, (MapKept.heap_alloc W _).1, rfl⟩
    case body =>
      rintro l pre x a' W hl _ ⟨hms, ⟨b, hm⟩, hB, hsz⟩ ⟨Bx, hBx, hXb, rfl⟩ hlt
      obtain ⟨⟨⟨h', l'⟩, A', cap', lv⟩, ok⟩ := x
      have hXb : W.heap[Bx]? = some (.cells #[.int .i64 h'.k, .int .i64 h'.n, .int .i64 h'.vk, .int .i64 h'.vn, .string h'.vs, .string h'.tab, .string h'.col, .slice A' l'.length cap'] 30 (0, 0)) := hXb
      obtain ⟨⟨y0, y1, y2, y3, y4, y5, y6, y7⟩, _⟩ := cell8 hXb
      have Hms := Lib.hid hms
      have HM := Lib.hid hm
      obtain ⟨bf, hbf⟩ : ∃ bf, errB h' = bf := ⟨_, rfl⟩
      have Hbf := Lib.hid hbf
      have HF := Lib.hid (mayErr_any h' A' l'.length cap' W)
      rw [hbf] at HF
      clear hms hm hXb hbf
      have HA := Lib.hid (show ((pre ++ [(⟨⟨.mk h' l', A', cap', lv⟩, ok⟩ : NdS w.heap.size W0)]).map ndp).all (fun y => !errB y.1.hd) = !bf by
        rw [List.map_append, List.all_append, Hms.out]
        simp [Ex.hd, Hbf.out])
      cases bf
      · gi_wp2_with ((try refine ⟨trivial, ?_⟩); gi_at_call 55; refine (CallsIn.inRound l (callsIn_wide.2 HF.out)).mono ?_; rintro e W5 ⟨rfl, hb5⟩)
        exact ⟨(Rd.of (S := S) hb5).from hSB, (Rd.of (S := S) hb5).kp hSU (by omega), HA.out, ⟨_, boxed_below HM.out hb5⟩, bt' hB hb5, Nat.le_trans hsz hb5.size⟩
      · gi_wp2_with ((try refine ⟨trivial, ?_⟩); gi_at_call 55; refine (CallsIn.inRound l (callsIn_wide.2 HF.out)).mono ?_; rintro e W5 ⟨rfl, hb5⟩; have m5 := boxed_below HM.out hb5; have k1 := m5.cell; have g1 := m5.frozen)
        exact ⟨((Rd.of (S := S) hb5).set hS1 _).from hSB, rfl, HA.out, m5.set _, (bt' hB hb5).setCell (p := ⟨u1, 0, none⟩) (by simp only; omega) _⟩
    case done =>
      rintro D ys W hD hys ⟨h1, ⟨b, h2⟩, h3, h4⟩ hK
      have k1 := h2.cell
      have g1 := h2.frozen
      have hR := (Rd.refl S W).set (j := 0) hS1 (.bool true)
      have hKD := (hR.block D (Array.getElem?_eq_some_iff.1 hK).1 (fun e => by have := hSB D e; omega)).trans hK
      have HE := Lib.hid (show safeB (.mk h lk) = true by rw [safeB, HM.out]; rw [hys] at h1; simpa using h1)
      have q1 := cells_put (o' := .deferred none) (h2.set (.bool true)) hKD rfl
      have HBl := Lib.hid (h3.trans (hR.below (n₀ := w.heap.size) hSU (by omega)))
      clear hR hK
      gi_wp2
      refine ⟨by simp, .inl ⟨_, _, rfl, run_takeDeferred hKD, ?_⟩⟩
      refine ⟨.bool (safeB (.mk h lk)), ?_, rfl, ?_⟩
      · rw [HE.out]; simp [results, Tryz.results40, go_sem, q1]
      · exact HBl.out.trans (belowK_b (w := w) (Nat.le_refl _) _ D _ _ (by omega) hKD rfl rfl)
    case stop =>
      rintro D c pre W hD hSp ⟨rfl, h1, h2, h3⟩ hK
      have HE := Lib.hid (show safeB (.mk h lk) = false by
        obtain ⟨r, hr⟩ := hSp
        rw [safeB, HM.out, ← hr, List.all_append, h1]; rfl)
      have q1 := cells_put (o' := .deferred none) h2 hK rfl
      gi_wp2
      refine ⟨by simp, .inl ⟨_, _, rfl, run_takeDeferred hK, ?_⟩⟩
      refine ⟨.bool (safeB (.mk h lk)), ?_, rfl, ?_⟩
      · rw [HE.out]; simp [results, Tryz.results40, go_sem, q1]
      · exact h3.trans (belowK_b (w := w) (Nat.le_refl _) _ D _ _ (by omega) hK rfl rfl)
end Go.Proofs.YtpokpiphnggfpaaGreatDoor
end
section
namespace Go.Proofs.YtpokpiphnggfpaaGreatDoor
open Go.Lib

/-- Each quote doubled. -/
def dbl (l : List UInt8) : List UInt8 := l.flatMap fun c => if c = 39 then [39, 39] else [c]

theorem dbl_le (l : List UInt8) : (dbl l).length ≤ 2 * l.length := by
  induction l with
  | nil => simp [dbl]
  | cons b l ih =>
    have e : dbl (b :: l) = (if b = 39 then [39, 39] else [b]) ++ dbl l := rfl
    rw [e, List.length_append]
    split <;> simp <;> omega

theorem replaceK_dbl (l : List UInt8) : replaceK [39] [39, 39] (l.count 39) l = dbl l := by
  induction l with
  | nil => simp [replaceK, dbl]
  | cons b l ih =>
    by_cases hb : b = 39
    · subst hb
      rw [List.count_cons_self, replaceK_hit _ _ _ _ 0 (by simp [index])]
      simp [ih, dbl]
    · rw [List.count_cons_of_ne hb]
      have e : dbl (b :: l) = b :: dbl l := by simp [dbl, hb]
      rw [e, ← ih]
      cases hk : l.count 39 with
      | zero => simp [replaceK]
      | succ k =>
        obtain ⟨i, hi⟩ := index_of_count (s := l) (old := [39]) (by rw [count_one, hk]; omega)
        have hi' : index (b :: l) [39] = ((i + 1 : Nat) : Int) := by
          have hp : ¬ ([39] : List UInt8).isPrefixOf (b :: l) = true := by
            simp [List.isPrefixOf]; exact fun h => hb h.symm
          rw [index, if_neg hp, hi, if_neg (by simp)]
          omega
        rw [replaceK_hit _ _ _ _ _ hi', replaceK_hit _ _ _ _ _ hi]
        simp

theorem replaceAll_dbl (l : List UInt8) : replaceAll l [39] [39, 39] = dbl l := by
  unfold replaceAll replace replaceNum
  rw [if_neg (by decide), if_pos (.inl (by decide)), count_one, replaceK_dbl]

end Go.Proofs.YtpokpiphnggfpaaGreatDoor
end
section
namespace Go.Proofs.YtpokpiphnggfpaaGreatDoor
open Go.RowKit Go.Shelf Go.Sort

abbrev qt : ByteArray := ⟨#[39]⟩
abbrev qt2 : ByteArray := ⟨#[39, 39]⟩

/-- The text of a value. -/
def showL (k n : Int) (s : ByteArray) : List UInt8 :=
  if okV k n s = true then
    (if k = 1 then (if n = 1 then [84, 82, 85, 69] else [70, 65, 76, 83, 69])
     else if k = 2 then Lib.itoa n else if k = 3 then 39 :: (dbl s.data.toList ++ [39]) else [78, 85, 76, 76])
  else [63]
/-- A text out of its bytes. -/
def bstr (l : List UInt8) : ByteArray := ⟨l.toArray⟩

theorem quoted (l : List UInt8) : qt ++ ⟨l.toArray⟩ ++ qt = bstr (39 :: (l ++ [39])) := by
  apply ByteArray.ext
  simp [bstr]
theorem grow_below (w : World) (k : Nat) (os : Array Obj) : Below w.heap.size w (grow (w.drewN k) os) :=
  ⟨rfl, rfl, rfl, by simp [grow, World.drewN], fun i hi => by simp [grow, World.drewN, Array.getElem?_append, hi]⟩

/-- Go's table of the powers of ten, and what else the texts of values lean on. -/
def Pows (w : World) : Prop := Lib.TabIs Tryz.prog w "internal/strconv.uint64pow10" .u64 Lib.pow10Tab
theorem ret_str {a b : ByteArray} (h : a = b) : Ending.returned (.string a) = .returned (.string b) := by rw [h]

end Go.Proofs.YtpokpiphnggfpaaGreatDoor
end
section
namespace Go.Proofs.YtpokpiphnggfpaaGreatDoor
open Go.RowKit Go.Shelf

def strU (s : String) : List UInt8 := s.toUTF8.data.toList
/-- What stands between two parts. -/
def btw : List (List UInt8) := [[], [79, 82], [65, 78, 68], [], [61], [60, 62], [60], [60, 61], [62], [62, 61], [43], [45], [42], [47], [37]]
def opX (n : Int) (f s : List UInt8) : List UInt8 :=
  if n = 3 then [78, 79, 84, 32] ++ f else if n = 15 then [45, 32] ++ f else if n = 16 then f ++ [32, 73, 83, 32, 78, 85, 76, 76] else if n = 17 then f ++ [32, 73, 83, 32, 78, 79, 84, 32, 78, 85, 76, 76]
  else f ++ [32] ++ btw.getD n.toNat [] ++ [32] ++ s
def aggX (n : Int) (f : List UInt8) : List UInt8 :=
  if n = 2 then [67, 79, 85, 78, 84, 40] ++ f ++ [41] else if n = 3 then [83, 85, 77, 40] ++ f ++ [41] else if n = 4 then [77, 73, 78, 40] ++ f ++ [41] else if n = 5 then [77, 65, 88, 40] ++ f ++ [41]
  else [67, 79, 85, 78, 84, 40, 42, 41]
def colX (t c : ByteArray) : List UInt8 := if t.toList.isEmpty then c.data.toList else t.data.toList ++ [46] ++ c.data.toList
mutual
/-- The text of an expression. -/
def shwX : Ex → List UInt8
  | .mk h l =>
    if h.k = 1 then showL h.vk h.vn h.vs
    else if h.k = 2 then colX h.tab h.col
    else if h.k = 4 then aggX h.n ((shwXs l).getD 0 [])
    else [40] ++ opX h.n ((shwXs l).getD 0 []) ((shwXs l).getD 1 []) ++ [41]
def shwXs : List Ex → List (List UInt8)
  | [] => []
  | x :: r => shwX x :: shwXs r
end
mutual
def FitX : Ex → Prop
  | .mk h l => fitsB h l.length = true ∧ FitXs l
def FitXs : List Ex → Prop
  | [] => True
  | x :: r => FitX x ∧ FitXs r
end
theorem FitXs.at : ∀ {l : List Ex}, FitXs l → ∀ {i : Nat} {x : Ex}, l[i]? = some x → FitX x
  | [], _, i, x, h => by simp at h
  | y :: r, H, 0, x, h => by
    obtain rfl : y = x := by simpa using h
    rw [FitXs] at H; exact H.1
  | y :: r, H, i + 1, x, h => by
    rw [FitXs] at H; exact FitXs.at H.2 (i := i) (by simpa using h)
theorem dec_lenE : ∀ u : Nat, (Lib.decDigits u).length ≤ u + 1 := by
  intro u
  induction u using Nat.strongRecOn with
  | _ u ih =>
    by_cases h : u < 10
    · rw [Lib.decDigits, dif_pos h]; simp
    · rw [Lib.decDigits, dif_neg h]
      have := ih (u / 10) (by omega)
      simp; omega
theorem itoa_lenE (n : Int) : (Lib.itoa n).length ≤ n.natAbs + 2 := by
  have h1 := dec_lenE n.toNat
  have h2 := dec_lenE n.natAbs
  unfold Lib.itoa
  split
  all_goals
    simp
    try omega
theorem showL_len (k n : Int) (s : ByteArray) : (showL k n s).length ≤ 9007199254741000 := by
  unfold showL
  split
  · rename_i ho
    split
    · split <;> simp
    · rename_i h1
      split
      · rename_i h2
        subst h2
        have hb : -9007199254740991 ≤ n ∧ n ≤ 9007199254740991 := by simp [okV] at ho; exact ho.1
        have := itoa_lenE n
        omega
      · rename_i h2
        split
        · rename_i h3
          subst h3
          have h64 : s.size ≤ 64 := by simp [okV] at ho; exact ho.2
          have hd := dbl_le s.data.toList
          have hsz : s.data.toList.length = s.size := by simp
          simp; omega
        · simp
  · simp
theorem btw_len (n : Nat) : (btw.getD n []).length ≤ 3 := by
  by_cases h : n < 15
  · have : ∀ k : Fin 15, (btw.getD k.1 []).length ≤ 3 := by decide +kernel
    exact this ⟨n, h⟩
  · rw [List.getD_eq_getElem?_getD, List.getElem?_eq_none (by simp [btw]; omega)]; simp
theorem opX_len (n : Int) (f s : List UInt8) : (opX n f s).length ≤ f.length + s.length + 13 := by
  have := btw_len n.toNat
  unfold opX
  repeat' split
  all_goals
    simp only [List.length_append, List.length_cons, List.length_nil]
    omega
theorem aggX_len (n : Int) (f : List UInt8) : (aggX n f).length ≤ f.length + 8 := by
  unfold aggX
  repeat' split
  all_goals simp
mutual
theorem shwX_len : ∀ x : Ex, AllSm x → (shwX x).length ≤ 9007199254742000 * cnt x
  | .mk h l, H => by
    rw [AllSm] at H
    obtain ⟨h1, h2⟩ := shwXs_len l H.2
    have hl := showL_len h.vk h.vn h.vs
    have ht := H.1.t
    have hc := H.1.c
    have ho := opX_len h.n ((shwXs l).getD 0 []) ((shwXs l).getD 1 [])
    have ha := aggX_len h.n ((shwXs l).getD 0 [])
    have hcx : (colX h.tab h.col).length ≤ 401 := by
      unfold colX; split
      · simp; omega
      · simp; omega
    rw [shwX, cnt_mk]
    repeat' split
    · omega
    · omega
    · omega
    · simp only [List.length_append, List.length_singleton]; omega
theorem shwXs_len : ∀ l : List Ex, AllSmL l → ((shwXs l).getD 0 []).length + ((shwXs l).getD 1 []).length ≤ 9007199254742000 * cntL l ∧ ((shwXs l).getD 0 []).length ≤ 9007199254742000 * cntL l
  | [], _ => by simp [shwXs]
  | [x], H => by
    rw [AllSmL] at H
    have := shwX_len x H.1
    simp only [shwXs, cntL, List.getD_cons_zero, List.getD_cons_succ, List.getD_nil, List.length_nil]
    omega
  | x :: y :: r, H => by
    rw [AllSmL, AllSmL] at H
    have h1 := shwX_len x H.1
    have h2 := shwX_len y H.2.1
    simp only [shwXs, cntL, List.getD_cons_zero, List.getD_cons_succ]
    omega
end
end Go.Proofs.YtpokpiphnggfpaaGreatDoor
end
section
namespace Go.Proofs.YtpokpiphnggfpaaGreatDoor
open Go.RowKit Go.Shelf

/-! What is known of an expression that may be. -/
mutual
theorem fit_of : ∀ (x : Ex) (d : Nat), (∀ y ∈ preo x d, fitsB y.1.hd y.1.kids.length = true) → FitX x
  | .mk h l, d, H => by
    rw [preo_mk] at H
    rw [FitX]
    exact ⟨H _ (List.mem_cons_self ..), fits_of l (d + 1) fun y hy => H y (List.mem_cons_of_mem _ hy)⟩
theorem fits_of : ∀ (l : List Ex) (d : Nat), (∀ y ∈ preoL l d, fitsB y.1.hd y.1.kids.length = true) → FitXs l
  | [], _, _ => by rw [FitXs]; trivial
  | x :: r, d, H => by
    rw [preoL] at H
    rw [FitXs]
    exact ⟨fit_of x d fun y hy => H y (List.mem_append_left _ hy), fits_of r d fun y hy => H y (List.mem_append_right _ hy)⟩
end
theorem msr_all : ∀ (ys : List (Ex × Nat)) {o : Option (Nat × Nat × Nat)} {a s d : Nat}, ys.foldl mstep o = some (a, s, d) →
    (∃ a0 s0 d0, o = some (a0, s0, d0) ∧ s = s0 + ys.length) ∧ ∀ y ∈ ys, fitsB y.1.hd y.1.kids.length = true
  | [], o, a, s, d, h => ⟨⟨a, s, d, h, by simp⟩, fun y hy => by cases hy⟩
  | y :: ys, o, a, s, d, h => by
    rw [List.foldl_cons] at h
    obtain ⟨⟨a1, s1, d1, e1, e2⟩, hall⟩ := msr_all ys h
    obtain ⟨x, lv⟩ := y
    cases o with
    | none => cases e1
    | some o =>
      obtain ⟨a0, s0, d0⟩ := o
      by_cases hn : s0 = 512 ∨ 32 < lv ∨ (x.hd.k = 4 ∧ 0 < aggl a0 lv) ∨ fitsB x.hd x.kids.length = false
      · rw [mstep, if_pos hn] at e1; cases e1
      · rw [mstep, if_neg hn] at e1
        simp only [Option.some.injEq, Prod.mk.injEq] at e1
        refine ⟨⟨a0, s0, d0, rfl, by rw [List.length_cons]; omega⟩, fun y hy => ?_⟩
        rcases List.mem_cons.1 hy with rfl | hy
        · cases hf : fitsB x.hd x.kids.length with
          | true => rfl
          | false => exact absurd (.inr (.inr (.inr hf))) hn
        · exact hall y hy
theorem meas_fit {x : Ex} (h : (measO x).isSome = true) : FitX x ∧ cnt x ≤ 512 := by
  unfold measO at h
  cases hm : msr (preo x 1) with
  | none => rw [hm] at h; cases h
  | some o =>
    obtain ⟨a, s, d⟩ := o
    obtain ⟨⟨a0, s0, d0, e1, e2⟩, hall⟩ := msr_all _ hm
    obtain ⟨_, hs, _⟩ := msr_le _ hm (fun a s d e => by cases e; exact ⟨by omega, by omega, by omega⟩)
    simp only [Option.some.injEq, Prod.mk.injEq] at e1
    rw [preo_len] at e2
    exact ⟨fit_of x 1 hall, by omega⟩
theorem XsAt.one {n : Nat} {w : World} {x : Ex} {r : List Ex} {A : Option Addr} (H : XsAt n w (x :: r) A) : ∃ g o A' cap, A = some ⟨g, o, none⟩ ∧ g < n ∧ XC w g o x.hd A' x.kids.length cap ∧ x.kids.length ≤ cap ∧ XsAt n w x.kids A' := by
  obtain ⟨h, l⟩ := x
  obtain ⟨g, o, A', cap, e, hg, hc, hl, hx⟩ := H.at (i := 0) rfl
  exact ⟨g, o, A', cap, e, hg, by rw [Nat.zero_mul, Nat.add_zero] at hc; exact hc, hl, hx⟩
theorem XsAt.two {n : Nat} {w : World} {x y : Ex} {r : List Ex} {g o : Nat} (H : XsAt n w (x :: y :: r) (some ⟨g, o, none⟩)) : ∃ A' cap, XC w g (o + 8) y.hd A' y.kids.length cap ∧ y.kids.length ≤ cap ∧ XsAt n w y.kids A' := by
  obtain ⟨h, l⟩ := y
  obtain ⟨g', o', A', cap, e, hg, hc, hl, hx⟩ := H.at (i := 1) rfl
  simp only [Option.some.injEq, Addr.mk.injEq] at e
  obtain ⟨rfl, rfl, _⟩ := e
  exact ⟨A', cap, by rw [Nat.one_mul] at hc; exact hc, hl, hx⟩
theorem len2 : ∀ {l : List Ex}, l.length = 2 → ∃ x y, l = [x, y]
  | [], h => by simp at h
  | [_], h => by simp at h
  | [x, y], _ => ⟨x, y, rfl⟩
  | _ :: _ :: _ :: _, h => by simp at h
def shoX (x : Ex) : List UInt8 := if (measO x).isSome then shwX x else []
end Go.Proofs.YtpokpiphnggfpaaGreatDoor
end
section
namespace Go.Proofs.YtpokpiphnggfpaaGreatDoor
open Go.RowKit Go.Shelf

mutual
/-- May it be, so deep, within an aggregate? -/
def goodB : Ex → Nat → Bool → Bool
  | .mk h l, d, ag => decide (d ≤ 32) && !(h.k == 4 && ag) && fitsB h l.length && goodBs l (d + 1) (ag || h.k == 4)
def goodBs : List Ex → Nat → Bool → Bool
  | [], _, _ => true
  | x :: r, d, ag => goodB x d ag && goodBs r d ag
end
mutual
def depX : Ex → Nat
  | .mk _ l => depXs l + 1
def depXs : List Ex → Nat
  | [] => 0
  | x :: r => max (depX x) (depXs r)
end
theorem goodB_mk (h : Hd) (l : List Ex) (d : Nat) (ag : Bool) : goodB (.mk h l) d ag = (decide (d ≤ 32) && !(h.k == 4 && ag) && fitsB h l.length && goodBs l (d + 1) (ag || h.k == 4)) := by rw [goodB]
theorem mstep_go {a s d lv : Nat} {x : Ex} (h : ¬ (s = 512 ∨ 32 < lv ∨ (x.hd.k = 4 ∧ 0 < aggl a lv) ∨ fitsB x.hd x.kids.length = false)) : mstep (some (a, s, d)) (x, lv) = some (if x.hd.k = 4 then lv else aggl a lv, s + 1, max d lv) := by
  rw [mstep, if_neg h]
mutual
theorem fold_yes : ∀ (x : Ex) (lv a s d : Nat), 1 ≤ lv → goodB x lv (decide (0 < aggl a lv)) = true → s + cnt x ≤ 512 →
    ∃ a2, (preo x lv).foldl mstep (some (a, s, d)) = some (a2, s + cnt x, max d (lv + depX x - 1)) ∧ ∀ lv', lv' ≤ lv → aggl a2 lv' = aggl a lv'
  | .mk h l, lv, a, s, d, h1, hg, hs => by
    rw [goodB_mk] at hg
    simp only [Bool.and_eq_true, decide_eq_true_eq, Bool.not_eq_true'] at hg
    obtain ⟨⟨⟨g1, g2⟩, g3⟩, g4⟩ := hg
    rw [cnt_mk] at hs
    have hn : ¬ (s = 512 ∨ 32 < lv ∨ ((Ex.mk h l).hd.k = 4 ∧ 0 < aggl a lv) ∨ fitsB (Ex.mk h l).hd (Ex.mk h l).kids.length = false) := by
      rintro (e | e | ⟨e1, e2⟩ | e)
      · omega
      · omega
      · have e1 : h.k = 4 := e1
        simp [e1, e2] at g2
      · have e : fitsB h l.length = false := e
        rw [g3] at e; cases e
    have ha : decide (0 < aggl a lv) = true → h.k ≠ 4 := fun e e2 => by simp [e2] at g2; rw [decide_eq_true_eq] at e; omega
    obtain ⟨a2, e1, e2⟩ := folds_yes l (lv + 1) (if h.k = 4 then lv else aggl a lv) (s + 1) (max d lv) (by omega) (by omega) (by
      have : (decide (0 < aggl a lv) || h.k == 4) = decide (0 < aggl (if h.k = 4 then lv else aggl a lv) (lv + 1)) := by
        by_cases hk : h.k = 4
        · rw [if_pos hk]
          have : 0 < aggl lv (lv + 1) := by unfold aggl; split <;> omega
          simp [hk, this]
        · rw [if_neg hk]
          have : aggl (aggl a lv) (lv + 1) = aggl a lv := by unfold aggl; repeat' split
                                                             all_goals omega
          rw [this]; simp [hk]
      rw [← this]; exact g4) (by omega)
    refine ⟨a2, ?_, fun lv' hl => ?_⟩
    · rw [preo_mk, List.foldl_cons, mstep_go hn, cnt_mk, depX]
      show List.foldl mstep (some (if h.k = 4 then lv else aggl a lv, s + 1, max d lv)) _ = _
      rw [e1, show s + 1 + cntL l = s + (1 + cntL l) by omega, show max (max d lv) (lv + 1 + depXs l - 1) = max d (lv + (depXs l + 1) - 1) by omega]
    · rw [e2 lv' (by omega)]
      by_cases hk : h.k = 4
      · rw [if_pos hk]
        have : ¬ 0 < aggl a lv := fun e => ha (by simpa using e) hk
        unfold aggl at this ⊢
        split at this
        all_goals repeat' split
        all_goals omega
      · rw [if_neg hk]
        unfold aggl
        repeat' split
        all_goals omega
theorem folds_yes : ∀ (l : List Ex) (lv a s d : Nat), 1 ≤ lv → lv ≤ d + 1 → goodBs l lv (decide (0 < aggl a lv)) = true → s + cntL l ≤ 512 →
    ∃ a2, (preoL l lv).foldl mstep (some (a, s, d)) = some (a2, s + cntL l, max d (lv + depXs l - 1)) ∧ ∀ lv', lv' ≤ lv → aggl a2 lv' = aggl a lv'
  | [], lv, a, s, d, h1, h2, hg, hs => by
    refine ⟨a, ?_, fun _ _ => rfl⟩
    rw [preoL, cntL, depXs, List.foldl_nil, show max d (lv + 0 - 1) = d by omega]; rfl
  | x :: r, lv, a, s, d, h1, h2, hg, hs => by
    rw [goodBs, Bool.and_eq_true] at hg
    rw [cntL] at hs
    obtain ⟨a1, e1, e2⟩ := fold_yes x lv a s d h1 hg.1 (by omega)
    obtain ⟨a2, e3, e4⟩ := folds_yes r lv a1 (s + cnt x) (max d (lv + depX x - 1)) h1 (by omega) (by rw [e2 lv (Nat.le_refl _)]; exact hg.2) (by omega)
    refine ⟨a2, ?_, fun lv' hl => (e4 lv' hl).trans (e2 lv' hl)⟩
    rw [preoL, List.foldl_append, e1, e3, cntL, depXs, show s + cnt x + cntL r = s + (cnt x + cntL r) by omega, show max (max d (lv + depX x - 1)) (lv + depXs r - 1) = max d (lv + max (depX x) (depXs r) - 1) by omega]
end
mutual
theorem fold_no : ∀ (x : Ex) (lv a s d : Nat), 1 ≤ lv → s ≤ 512 → ¬ (goodB x lv (decide (0 < aggl a lv)) = true ∧ s + cnt x ≤ 512) → (preo x lv).foldl mstep (some (a, s, d)) = none
  | .mk h l, lv, a, s, d, h1, hs, hg => by
    rw [preo_mk, List.foldl_cons]
    by_cases hn : s = 512 ∨ 32 < lv ∨ ((Ex.mk h l).hd.k = 4 ∧ 0 < aggl a lv) ∨ fitsB (Ex.mk h l).hd (Ex.mk h l).kids.length = false
    · rw [mstep, if_pos hn, mstep_none]
    · rw [mstep_go hn]
      show List.foldl mstep (some (if h.k = 4 then lv else aggl a lv, s + 1, max d lv)) _ = none
      have n1 : ¬ s = 512 := fun e => hn (.inl e)
      have n2 : ¬ 32 < lv := fun e => hn (.inr (.inl e))
      have n3 : ¬ (h.k = 4 ∧ 0 < aggl a lv) := fun e => hn (.inr (.inr (.inl e)))
      have n4 : fitsB h l.length = true := by
        cases hf : fitsB h l.length with
        | true => rfl
        | false => exact absurd (.inr (.inr (.inr hf))) hn
      refine folds_no l (lv + 1) _ (s + 1) (max d lv) (by omega) (by omega) (by omega) fun ⟨e1, e2⟩ => hg ⟨?_, by rw [cnt_mk]; omega⟩
      rw [goodB_mk]
      have : (decide (0 < aggl a lv) || h.k == 4) = decide (0 < aggl (if h.k = 4 then lv else aggl a lv) (lv + 1)) := by
        by_cases hk : h.k = 4
        · rw [if_pos hk]
          have : 0 < aggl lv (lv + 1) := by unfold aggl; split <;> omega
          simp [hk, this]
        · rw [if_neg hk]
          have : aggl (aggl a lv) (lv + 1) = aggl a lv := by unfold aggl; repeat' split
                                                             all_goals omega
          rw [this]; simp [hk]
      rw [this, e1, n4]
      have h3 : (h.k == 4 && decide (0 < aggl a lv)) = false := by
        cases hk : (h.k == 4 && decide (0 < aggl a lv)) with
        | false => rfl
        | true => exact absurd (by simpa using hk) n3
      rw [h3]
      simp; omega
theorem folds_no : ∀ (l : List Ex) (lv a s d : Nat), 1 ≤ lv → lv ≤ d + 1 → s ≤ 512 → ¬ (goodBs l lv (decide (0 < aggl a lv)) = true ∧ s + cntL l ≤ 512) → (preoL l lv).foldl mstep (some (a, s, d)) = none
  | [], lv, a, s, d, h1, h2, hs, hg => by
    exfalso
    exact hg ⟨by rw [goodBs], by rw [cntL]; omega⟩
  | x :: r, lv, a, s, d, h1, h2, hs, hg => by
    rw [preoL, List.foldl_append]
    by_cases hx : goodB x lv (decide (0 < aggl a lv)) = true ∧ s + cnt x ≤ 512
    · obtain ⟨a1, e1, e2⟩ := fold_yes x lv a s d h1 hx.1 hx.2
      rw [e1]
      refine folds_no r lv a1 (s + cnt x) (max d (lv + depX x - 1)) h1 (by omega) hx.2 fun ⟨g1, g2⟩ => hg ⟨?_, by rw [cntL]; omega⟩
      rw [e2 lv (Nat.le_refl _)] at g1
      rw [goodBs, hx.1, g1]; rfl
    · rw [fold_no x lv a s d h1 hs hx, mstep_none]
end
/-- May it be at all? -/
def okX (x : Ex) : Bool := goodB x 1 false && decide (cnt x ≤ 512)
theorem meas_eq (x : Ex) : measO x = if okX x = true then some (cnt x, depX x) else none := by
  have ha : decide (0 < aggl 0 1) = false := by decide
  unfold measO msr
  cases ho : okX x with
  | true =>
    have : goodB x 1 false = true ∧ cnt x ≤ 512 := by simpa [okX] using ho
    obtain ⟨a2, e, _⟩ := fold_yes x 1 0 0 0 (Nat.le_refl _) (by rw [ha]; exact this.1) (by omega)
    rw [e, show 0 + cnt x = cnt x by omega, show max 0 (1 + depX x - 1) = depX x by omega]; rfl
  | false =>
    rw [fold_no x 1 0 0 0 (Nat.le_refl _) (by omega) (by
      rw [ha]
      rintro ⟨e1, e2⟩
      have : okX x = true := by rw [okX, e1]; simp; omega
      rw [ho] at this; cases this)]
    rfl
theorem meas_some (x : Ex) : (measO x).isSome = okX x := by rw [meas_eq]; cases okX x <;> rfl
mutual
theorem good_fit : ∀ (x : Ex) (d : Nat) (ag : Bool), goodB x d ag = true → FitX x
  | .mk h l, d, ag, hg => by
    rw [goodB_mk] at hg
    simp only [Bool.and_eq_true] at hg
    rw [FitX]
    exact ⟨hg.1.2, goods_fit l _ _ hg.2⟩
theorem goods_fit : ∀ (l : List Ex) (d : Nat) (ag : Bool), goodBs l d ag = true → FitXs l
  | [], _, _, _ => by rw [FitXs]; trivial
  | x :: r, d, ag, hg => by
    rw [goodBs, Bool.and_eq_true] at hg
    rw [FitXs]
    exact ⟨good_fit x d ag hg.1, goods_fit r d ag hg.2⟩
end
theorem ok_fit {x : Ex} (h : okX x = true) : FitX x ∧ cnt x ≤ 512 := by
  have : goodB x 1 false = true ∧ cnt x ≤ 512 := by simpa [okX] using h
  exact ⟨good_fit x 1 false this.1, this.2⟩
theorem goodBs_take {l : List Ex} {k : Nat} {x : Ex} (h : l[k]? = some x) (d : Nat) (ag : Bool) : goodBs (l.take (k + 1)) d ag = (goodBs (l.take k) d ag && goodB x d ag) := by
  induction l generalizing k with
  | nil => simp at h
  | cons y r ih =>
    cases k with
    | zero =>
      obtain rfl : y = x := by simpa using h
      simp [goodBs]
    | succ k =>
      rw [List.take_succ_cons, List.take_succ_cons, goodBs, goodBs, ih (by simpa using h), Bool.and_assoc]
theorem goodBs_no {l : List Ex} {k : Nat} {d : Nat} {ag : Bool} (h : goodBs (l.take k) d ag = false) : goodBs l d ag = false := by
  induction l generalizing k with
  | nil => simp [goodBs] at h
  | cons y r ih =>
    cases k with
    | zero => simp [goodBs] at h
    | succ k =>
      rw [List.take_succ_cons, goodBs] at h
      rw [goodBs]
      cases hy : goodB y d ag with
      | false => rfl
      | true => rw [hy, Bool.true_and] at h; rw [ih h]; rfl
theorem cntL_take {l : List Ex} {k : Nat} {x : Ex} (h : l[k]? = some x) : cntL (l.take (k + 1)) = cntL (l.take k) + cnt x := by
  induction l generalizing k with
  | nil => simp at h
  | cons y r ih =>
    cases k with
    | zero =>
      obtain rfl : y = x := by simpa using h
      simp [cntL]
    | succ k => rw [List.take_succ_cons, List.take_succ_cons, cntL, cntL, ih (by simpa using h)]; omega
theorem cntL_take_le (l : List Ex) (k : Nat) : cntL (l.take k) ≤ cntL l := by
  induction l generalizing k with
  | nil => simp
  | cons y r ih =>
    cases k with
    | zero => simp [cntL]
    | succ k => rw [List.take_succ_cons, cntL, cntL]; have := ih k; omega
theorem depXs_take {l : List Ex} {k : Nat} {x : Ex} (h : l[k]? = some x) : depXs (l.take (k + 1)) = max (depXs (l.take k)) (depX x) := by
  induction l generalizing k with
  | nil => simp at h
  | cons y r ih =>
    cases k with
    | zero =>
      obtain rfl : y = x := by simpa using h
      simp [depXs]
    | succ k => rw [List.take_succ_cons, List.take_succ_cons, depXs, depXs, ih (by simpa using h)]; omega
mutual
theorem depX_le : ∀ x : Ex, depX x ≤ cnt x
  | .mk h l => by rw [depX, cnt]; have := depXs_le l; omega
theorem depXs_le : ∀ l : List Ex, depXs l ≤ cntL l
  | [] => by rw [depXs]; omega
  | x :: r => by rw [depXs, cntL]; have := depX_le x; have := depXs_le r; omega
end
/-! What stands in an expression. -/
mutual
def errsX : Ex → Bool
  | .mk h l => errB h || errsXs l
def errsXs : List Ex → Bool
  | [] => false
  | x :: r => errsX x || errsXs r
end
mutual
theorem errs_preo : ∀ (x : Ex) (d : Nat), (preo x d).all (fun y => !errB y.1.hd) = !errsX x
  | .mk h l, d => by rw [preo_mk, List.all_cons, errs_preoL l (d + 1), errsX]; simp [Ex.hd]
theorem errs_preoL : ∀ (l : List Ex) (d : Nat), (preoL l d).all (fun y => !errB y.1.hd) = !errsXs l
  | [], d => by rw [preoL, errsXs]; rfl
  | x :: r, d => by rw [preoL, List.all_append, errs_preo x d, errs_preoL r d, errsXs]; simp
end
theorem errsXs_take {l : List Ex} {k : Nat} {x : Ex} (h : l[k]? = some x) : errsXs (l.take (k + 1)) = (errsXs (l.take k) || errsX x) := by
  induction l generalizing k with
  | nil => simp at h
  | cons y r ih =>
    cases k with
    | zero =>
      obtain rfl : y = x := by simpa using h
      simp [errsXs]
    | succ k => rw [List.take_succ_cons, List.take_succ_cons, errsXs, errsXs, ih (by simpa using h), Bool.or_assoc]
theorem errsXs_yes {l : List Ex} {k : Nat} (h : errsXs (l.take k) = true) : errsXs l = true := by
  induction l generalizing k with
  | nil => simp [errsXs] at h
  | cons y r ih =>
    cases k with
    | zero => simp [errsXs] at h
    | succ k =>
      rw [List.take_succ_cons, errsXs] at h
      rw [errsXs]
      cases hy : errsX y with
      | true => rfl
      | false => rw [hy, Bool.false_or] at h; rw [ih h]; rfl
mutual
/-- Those of a kind. -/
def kndX (k : Int) : Ex → List Ex
  | .mk h l => (if h.k = k then [.mk h l] else []) ++ kndXs k l
def kndXs (k : Int) : List Ex → List Ex
  | [] => []
  | x :: r => kndX k x ++ kndXs k r
end
mutual
theorem knd_preo (k : Int) : ∀ (x : Ex) (d : Nat), ((preo x d).map (·.1)).filter (fun y => y.hd.k == k) = kndX k x
  | .mk h l, d => by
    rw [preo_mk, List.map_cons, List.filter_cons, knd_preoL k l (d + 1), kndX]
    by_cases hk : h.k = k
    · simp [Ex.hd, hk]
    · simp [Ex.hd, hk]
theorem knd_preoL (k : Int) : ∀ (l : List Ex) (d : Nat), ((preoL l d).map (·.1)).filter (fun y => y.hd.k == k) = kndXs k l
  | [], d => by rw [preoL, kndXs]; rfl
  | x :: r, d => by rw [preoL, List.map_append, List.filter_append, knd_preo k x d, knd_preoL k r d, kndXs]
end
theorem kndXs_take (c : Int) {l : List Ex} {k : Nat} {x : Ex} (h : l[k]? = some x) : kndXs c (l.take (k + 1)) = kndXs c (l.take k) ++ kndX c x := by
  induction l generalizing k with
  | nil => simp at h
  | cons y r ih =>
    cases k with
    | zero =>
      obtain rfl : y = x := by simpa using h
      simp [kndXs]
    | succ k => rw [List.take_succ_cons, List.take_succ_cons, kndXs, kndXs, ih (by simpa using h), List.append_assoc]
mutual
/-- The parts of an OpAnd. -/
def prtX : Ex → List Ex
  | .mk h l => if h.k = 3 ∧ h.n = 2 then (prtXs l).getD 0 [] ++ (prtXs l).getD 1 [] else [.mk h l]
def prtXs : List Ex → List (List Ex)
  | [] => []
  | x :: r => prtX x :: prtXs r
end
end Go.Proofs.YtpokpiphnggfpaaGreatDoor
end
section
namespace Go.Proofs.YtpokpiphnggfpaaGreatDoor
open Go.RowKit

/-- A value, by its three parts. -/
structure Va where
  k : Int
  n : Int
  s : ByteArray

def Va.val (v : Va) : Value := VV v.k v.n v.s
def Va.ok (v : Va) : Bool := okV v.k v.n v.s
def cmpA (a b : Va) : Int := cmpV a.k a.n a.s b.k b.n b.s

/-- A slice's address, at which a row's values lie, three cells each. -/
def RowAt (w : World) (A : Option Addr) (r : List Va) : Prop :=
  r = [] ∨ ∃ b off : Nat, A = some ⟨b, off, none⟩ ∧ b < w.heap.size ∧ ∀ (i : Nat) (v : Va), r[i]? = some v →
    w.cell? ⟨b, off + i * 3, none⟩ = some (.int .i64 v.k) ∧ w.cell? ⟨b, off + i * 3 + 1, none⟩ = some (.int .i64 v.n) ∧ w.cell? ⟨b, off + i * 3 + 2, none⟩ = some (.string v.s)

theorem RowAt.kept {w w' : World} {A : Option Addr} {r : List Va} (h : RowAt w A r) (hb : Below w.heap.size w w') : RowAt w' A r := by
  rcases h with h | ⟨b, off, hA, hlt, hc⟩
  · exact .inl h
  · refine .inr ⟨b, off, hA, Nat.lt_of_lt_of_le hlt hb.size, fun i v hv => ?_⟩
    obtain ⟨c0, c1, c2⟩ := hc i v hv
    exact ⟨(hb.cell (p := ⟨b, _, none⟩) hlt).trans c0, (hb.cell (p := ⟨b, _, none⟩) hlt).trans c1, (hb.cell (p := ⟨b, _, none⟩) hlt).trans c2⟩

theorem RowAt.at {w : World} {A : Option Addr} {r : List Va} (h : RowAt w A r) {i : Nat} (hi : i < r.length) :
    ∃ b off : Nat, A = some ⟨b, off, none⟩ ∧ b < w.heap.size ∧ w.cell? ⟨b, off + i * 3, none⟩ = some (.int .i64 r[i].k) ∧ w.cell? ⟨b, off + i * 3 + 1, none⟩ = some (.int .i64 r[i].n) ∧ w.cell? ⟨b, off + i * 3 + 2, none⟩ = some (.string r[i].s) := by
  rcases h with h | ⟨b, off, hA, hlt, hc⟩
  · subst h; simp at hi
  · obtain ⟨c0, c1, c2⟩ := hc i r[i] (List.getElem?_eq_getElem hi)
    exact ⟨b, off, hA, hlt, c0, c1, c2⟩

/-- No text of a row is too long for an int. -/
def Fine (r : List Va) : Prop := ∀ v ∈ r, v.s.size ≤ 9223372036854775807
theorem Fine.at {r : List Va} (h : Fine r) {i : Nat} (hi : i < r.length) : r[i].s.size ≤ 9223372036854775807 := h _ (List.getElem_mem hi)

theorem any_take_succ (p : Va → Bool) (r : List Va) (i : Nat) (hi : i < r.length) : (r.take (i + 1)).any p = ((r.take i).any p || p r[i]) := by
  rw [List.take_succ_eq_append_getElem hi, List.any_append]
  simp

/-- A slice's address, at which values of one cell each lie. -/
def CellsAt (w : World) (A : Option Addr) (xs : List Value) : Prop :=
  xs = [] ∨ ∃ b off : Nat, A = some ⟨b, off, none⟩ ∧ b < w.heap.size ∧ ∀ (i : Nat) (v : Value), xs[i]? = some v → w.cell? ⟨b, off + i, none⟩ = some v
theorem CellsAt.kept {w w' : World} {A : Option Addr} {xs : List Value} (h : CellsAt w A xs) (hb : Below w.heap.size w w') : CellsAt w' A xs := by
  rcases h with h | ⟨b, off, hA, hlt, hc⟩
  · exact .inl h
  · exact .inr ⟨b, off, hA, Nat.lt_of_lt_of_le hlt hb.size, fun i v hv => (hb.cell (p := ⟨b, _, none⟩) hlt).trans (hc i v hv)⟩
theorem CellsAt.at {w : World} {A : Option Addr} {xs : List Value} (h : CellsAt w A xs) {i : Nat} {v : Value} (hi : xs[i]? = some v) :
    ∃ b off : Nat, A = some ⟨b, off, none⟩ ∧ b < w.heap.size ∧ w.cell? ⟨b, off + i, none⟩ = some v := by
  rcases h with h | ⟨b, off, hA, hlt, hc⟩
  · subst h; simp at hi
  · exact ⟨b, off, hA, hlt, hc i v hi⟩
abbrev IntsAt (w : World) (A : Option Addr) (l : List Int) : Prop := CellsAt w A (l.map (Value.int .i64))
abbrev BoolsAt (w : World) (A : Option Addr) (l : List Bool) : Prop := CellsAt w A (l.map Value.bool)

/-- The order of rows. -/
def cmpR : List Va → List Va → Int
  | [], [] => 0
  | [], _ :: _ => -1
  | _ :: _, [] => 1
  | a :: r, b :: r' => if cmpA a b = 0 then cmpR r r' else cmpA a b
theorem cmpR_range : ∀ r r' : List Va, -1 ≤ cmpR r r' ∧ cmpR r r' ≤ 1
  | [], [] => by simp [cmpR]
  | [], _ :: _ => by simp [cmpR]
  | _ :: _, [] => by simp [cmpR]
  | a :: r, b :: r' => by
    rw [cmpR]
    split
    · exact cmpR_range r r'
    · exact cmpV_range ..
theorem cmpA_anti (a b : Va) : cmpA b a = - cmpA a b := cmpV_anti ..
theorem cmpR_anti : ∀ r r' : List Va, cmpR r' r = - cmpR r r'
  | [], [] => rfl
  | [], _ :: _ => rfl
  | _ :: _, [] => rfl
  | a :: r, b :: r' => by
    rw [cmpR, cmpR, cmpA_anti a b, cmpR_anti r r']
    by_cases h : cmpA a b = 0
    · rw [if_pos (by omega), if_pos h]
    · rw [if_neg (by omega), if_neg h]
theorem cmpR_step (r r' : List Va) (j : Nat) (h : j < r.length) (h' : j < r'.length) :
    cmpR (r.drop j) (r'.drop j) = if cmpA r[j] r'[j] = 0 then cmpR (r.drop (j + 1)) (r'.drop (j + 1)) else cmpA r[j] r'[j] := by
  rw [List.drop_eq_getElem_cons h, List.drop_eq_getElem_cons h', cmpR]
theorem cmpR_short (r r' : List Va) (j : Nat) (h : j < r.length) (h' : r'.length ≤ j) : cmpR (r.drop j) (r'.drop j) = 1 := by
  rw [List.drop_eq_getElem_cons h, List.drop_eq_nil_of_le h']; rfl
theorem cmpR_long (r r' : List Va) (j : Nat) (h : r.length ≤ j) (h' : j < r'.length) : cmpR (r.drop j) (r'.drop j) = -1 := by
  rw [List.drop_eq_nil_of_le h, List.drop_eq_getElem_cons h']; rfl
theorem cmpR_both (r r' : List Va) (j : Nat) (h : r.length ≤ j) (h' : r'.length ≤ j) : cmpR (r.drop j) (r'.drop j) = 0 := by
  rw [List.drop_eq_nil_of_le h, List.drop_eq_nil_of_le h']; rfl

/-- A row's value at a place, or null; the order by places. -/
def nullA : Va := ⟨0, 0, ⟨#[]⟩⟩
def atV (r : List Va) (c : Int) : Va := if 0 ≤ c then r.getD c.toNat nullA else nullA
def byV (a b : List Va) : List Int → List Bool → Int
  | [], _ => 0
  | c :: cs, ds => if cmpA (atV a c) (atV b c) = 0 then byV a b cs ds.tail else if ds.headD false then - cmpA (atV a c) (atV b c) else cmpA (atV a c) (atV b c)
theorem byV_step (a b : List Va) (cols : List Int) (down : List Bool) (j : Nat) (h : j < cols.length) :
    byV a b (cols.drop j) (down.drop j) = if cmpA (atV a cols[j]) (atV b cols[j]) = 0 then byV a b (cols.drop (j + 1)) (down.drop (j + 1))
      else if down.getD j false then - cmpA (atV a cols[j]) (atV b cols[j]) else cmpA (atV a cols[j]) (atV b cols[j]) := by
  rw [List.drop_eq_getElem_cons h, byV, List.tail_drop]
  have e : (down.drop j).headD false = down.getD j false := by
    rw [List.headD_eq_head?_getD, List.head?_drop, List.getD_eq_getElem?_getD]
  rw [e]
theorem byV_end (a b : List Va) (cols : List Int) (down : List Bool) (j : Nat) (h : cols.length ≤ j) : byV a b (cols.drop j) (down.drop j) = 0 := by
  rw [List.drop_eq_nil_of_le h]; rfl
end Go.Proofs.YtpokpiphnggfpaaGreatDoor
end
section
namespace Go.Proofs.YtpokpiphnggfpaaGreatDoor
open Go.RowKit Go.Shelf

/-! Of one value, of two. -/
/-- A number as a truth; and, or, not. -/
def tr (n : Int) : Int := if n < 0 ∨ 2 < n then 2 else n
theorem tr_three (n : Int) : tr n = 0 ∨ tr n = 1 ∨ tr n = 2 := by unfold tr; split <;> omega
def andT (a b : Int) : Int := if a = 0 ∨ b = 0 then 0 else if a = 1 ∧ b = 1 then 1 else 2
def orT (a b : Int) : Int := if a = 1 ∨ b = 1 then 1 else if a = 0 ∧ b = 0 then 0 else 2
def notT (a : Int) : Int := if a = 0 then 1 else if a = 1 then 0 else 2
/-- The value of a truth. -/
def ofN (t : Int) : Int := if t = 1 then 1 else 0
def ofK (t : Int) : Int := if t = 0 ∨ t = 1 then 1 else 0
def Va.tr (v : Va) : Int := truthV v.k v.n v.s
def ofT (t : Int) : Va := ⟨ofK t, ofN t, ⟨#[]⟩⟩
def boolA (b : Bool) : Va := ⟨1, if b then 1 else 0, ⟨#[]⟩⟩
def intA (n : Int) : Va := ⟨2, n, ⟨#[]⟩⟩
def wrongA (v : Va) : Bool := !v.ok || (v.k != 2 && v.k != 0)
def inI (n : Int) : Bool := decide (-9007199254740991 ≤ n) && decide (n ≤ 9007199254740991)
def fitI (o : Option Int) : Option Va := match o with
  | some n => if inI n = true then some (intA n) else none
  | none => none
def reckA (f : Int → Int → Option Int) (a b : Va) : Option Va :=
  if wrongA a = true ∨ wrongA b = true then none
  else if a.k = 0 ∨ b.k = 0 then some nullA
  else fitI (f a.n b.n)
def sumI (a b : Int) : Option Int := some (a + b)
def subI (a b : Int) : Option Int := some (a - b)
def prodI (a b : Int) : Option Int := if a ≠ 0 ∧ Int.tdiv 9007199254740991 (max a (-a)) < max b (-b) then none else some (a * b)
def divI (a b : Int) : Option Int := if b = 0 then none else some (Int.tdiv a b)
def modI (a b : Int) : Option Int := if b = 0 then none else some (Int.tmod a b)
def truO (n : Int) (a b : Va) : Int :=
  if n = 1 then orT (tr a.tr) (tr b.tr)
  else if n = 2 then andT (tr a.tr) (tr b.tr)
  else if n = 4 then equalV a.k a.n a.s b.k b.n b.s
  else if n = 5 then notT (tr (equalV a.k a.n a.s b.k b.n b.s))
  else if n = 6 then lessV a.k a.n a.s b.k b.n b.s
  else if n = 7 then notT (tr (lessV b.k b.n b.s a.k a.n a.s))
  else if n = 8 then lessV b.k b.n b.s a.k a.n a.s
  else notT (tr (lessV a.k a.n a.s b.k b.n b.s))
def twoA (n : Int) (a b : Va) : Option Va :=
  if n = 10 then reckA sumI a b
  else if n = 11 then reckA subI a b
  else if n = 12 then reckA prodI a b
  else if n = 13 then reckA divI a b
  else if n = 14 then reckA modI a b
  else some (ofT (truO n a b))
def oneA (n : Int) (v : Va) : Option Va :=
  if n = 3 then some (ofT (notT (tr v.tr)))
  else if n = 16 then some (boolA (v.k == 0))
  else if n = 17 then some (boolA (v.k != 0))
  else twoA 11 (intA 0) v
def decA (n : Int) (v : Va) : Bool := (n == 2 && v.tr == 0) || (n == 1 && v.tr == 1)
/-- A row's value at a place, or null. -/
def atR (r : List Va) (c : Int) : Va := r.getD c.toNat nullA

/-! What an expression comes to: none, where it errs. -/
def topA (r : List Va) (h : Hd) (cs : List (Option Va)) : Option Va :=
  if h.k = 1 then some ⟨h.vk, h.vn, h.vs⟩ else if h.k = 2 then some (atR r h.n) else
    match cs with
    | [] => none
    | [a] => match a with
      | none => none
      | some v => oneA h.n v
    | a :: b :: _ => match a with
      | none => none
      | some v => if decA h.n v = true then some v else match b with
        | none => none
        | some u => twoA h.n v u
mutual
def comX (r : List Va) : Ex → Option Va
  | .mk h l => topA r h (comXs r l)
def comXs (r : List Va) : List Ex → List (Option Va)
  | [] => []
  | x :: l => comX r x :: comXs r l
end
theorem comX_mk (r : List Va) (h : Hd) (l : List Ex) : comX r (.mk h l) = topA r h (comXs r l) := by rw [comX]
mutual
/-- Does an aggregate stand in it? -/
def hasA : Ex → Bool
  | .mk h l => h.k == 4 || hasAs l
def hasAs : List Ex → Bool
  | [] => false
  | x :: l => hasA x || hasAs l
end
def mayI (x : Ex) : Int := if okX x = true then (if hasA x = true then 1 else 0) else 100
def evI (r : List Va) (x : Ex) : Int := if mayI x = 0 then (if (comX r x).isSome then 0 else 160) else mayI x
def evA (r : List Va) (x : Ex) : Va := if mayI x = 0 then (comX r x).getD nullA else nullA

/-! Do its parts hold? -/
def sqB : Option Bool → Option Bool → Option Bool
  | none, _ => none
  | some false, _ => some false
  | some true, b => b
def trueA (o : Option Va) : Option Bool := o.map fun v => v.tr == 1
def hldT (r : List Va) (s : Bool) (h : Hd) (l : List Ex) (cs : List (Option Bool)) : Option Bool :=
  if h.k = 3 ∧ h.n = 2 then match cs with
    | a :: b :: _ => sqB a b
    | _ => none
  else if safeB (.mk h l) = s then trueA (comX r (.mk h l)) else some true
mutual
def hldX (r : List Va) (s : Bool) : Ex → Option Bool
  | .mk h l => hldT r s h l (hldXs r s l)
def hldXs (r : List Va) (s : Bool) : List Ex → List (Option Bool)
  | [] => []
  | x :: l => hldX r s x :: hldXs r s l
end
theorem hldX_mk (r : List Va) (s : Bool) (h : Hd) (l : List Ex) : hldX r s (.mk h l) = hldT r s h l (hldXs r s l) := by rw [hldX]
def holdO (r : List Va) (x : Ex) : Option Bool := sqB (hldX r true x) (hldX r false x)
def hoI (r : List Va) (x : Ex) : Int := if mayI x = 0 then (if (holdO r x).isSome then 0 else 160) else mayI x
def hoB (r : List Va) (x : Ex) : Bool := mayI x == 0 && holdO r x == some true

/-! Values that may be come to such. -/
theorem ok_bool (b : Bool) : (boolA b).ok = true := by cases b <;> decide +kernel
theorem ok_ofT (t : Int) : (ofT t).ok = true := by
  unfold ofT Va.ok okV ofK ofN
  by_cases h0 : t = 0
  · subst h0; decide +kernel
  · by_cases h1 : t = 1
    · subst h1; decide +kernel
    · simp [h0, h1]
theorem ok_null : nullA.ok = true := by decide +kernel
theorem fit_ok {o : Option Int} {v : Va} (h : fitI o = some v) : v.ok = true := by
  cases o with
  | none => simp [fitI] at h
  | some n =>
    simp only [fitI] at h
    by_cases hi : inI n = true
    · rw [if_pos hi] at h
      simp only [Option.some.injEq] at h
      subst h
      simp only [inI, Bool.and_eq_true, decide_eq_true_eq] at hi
      simp only [Va.ok, intA, okV]
      simp [hi.1, hi.2]
    · rw [if_neg hi] at h; cases h
theorem reck_ok {f : Int → Int → Option Int} {a b v : Va} (h : reckA f a b = some v) : v.ok = true := by
  unfold reckA at h
  split at h
  · cases h
  · split at h
    · simp only [Option.some.injEq] at h; subst h; exact ok_null
    · exact fit_ok h
theorem two_ok {n : Int} {a b v : Va} (h : twoA n a b = some v) : v.ok = true := by
  unfold twoA at h
  repeat' split at h
  all_goals first
    | exact reck_ok h
    | (simp only [Option.some.injEq] at h; subst h; exact ok_ofT _)
theorem one_ok {n : Int} {a v : Va} (h : oneA n a = some v) : v.ok = true := by
  unfold oneA at h
  repeat' split at h
  all_goals first
    | exact two_ok h
    | (simp only [Option.some.injEq] at h; subst h; first | exact ok_ofT _ | exact ok_bool _)
def OkR (r : List Va) : Prop := ∀ v ∈ r, v.ok = true
theorem at_ok {r : List Va} (h : OkR r) (c : Int) : (atR r c).ok = true := by
  unfold atR
  rw [List.getD_eq_getElem?_getD]
  cases e : r[c.toNat]? with
  | none => exact ok_null
  | some v => exact h v (List.mem_of_getElem? e)
theorem fits_lit {h : Hd} {len : Nat} (hk : h.k = 1) (hf : fitsB h len = true) : (⟨h.vk, h.vn, h.vs⟩ : Va).ok = true := by
  unfold fitsB at hf
  rw [if_pos hk] at hf
  simp only [Bool.and_eq_true, litB] at hf
  exact hf.1.1.1.1
mutual
theorem com_ok {r : List Va} (hr : OkR r) : ∀ (x : Ex), FitX x → ∀ v, comX r x = some v → v.ok = true
  | .mk h l, hx, v, hv => by
    rw [FitX] at hx
    have ih := coms_ok hr l hx.2
    rw [comX_mk, topA.eq_def] at hv
    split at hv
    · rename_i hk
      simp only [Option.some.injEq] at hv; subst hv
      exact fits_lit hk hx.1
    · split at hv
      · simp only [Option.some.injEq] at hv; subst hv; exact at_ok hr _
      · split at hv
        · cases hv
        · split at hv
          · cases hv
          · exact one_ok hv
        · rename_i e
          split at hv
          · cases hv
          · split at hv
            · simp only [Option.some.injEq] at hv; subst hv
              exact ih _ (by rw [e]; exact List.mem_cons_self ..)
            · split at hv
              · cases hv
              · exact two_ok hv
theorem coms_ok {r : List Va} (hr : OkR r) : ∀ (l : List Ex), FitXs l → ∀ v, some v ∈ comXs r l → v.ok = true
  | [], _, v, hv => by rw [comXs] at hv; cases hv
  | x :: l, hx, v, hv => by
    rw [FitXs] at hx
    rw [comXs, List.mem_cons] at hv
    rcases hv with hv | hv
    · exact com_ok hr x hx.1 v hv.symm
    · exact coms_ok hr l hx.2 v hv
end
/-! What is safe never errs. -/
theorem coms_len (r : List Va) : ∀ l : List Ex, (comXs r l).length = l.length
  | [] => by rw [comXs]; rfl
  | x :: l => by rw [comXs, List.length_cons, List.length_cons, coms_len r l]
theorem two_some {n : Int} (h : ¬ (10 ≤ n ∧ n ≤ 15)) (a b : Va) : (twoA n a b).isSome = true := by
  unfold twoA
  rw [if_neg (by omega), if_neg (by omega), if_neg (by omega), if_neg (by omega), if_neg (by omega)]
  rfl
theorem one_some {n : Int} (h : n = 3 ∨ n = 16 ∨ n = 17) (a : Va) : (oneA n a).isSome = true := by
  unfold oneA
  rcases h with rfl | rfl | rfl <;> rfl
theorem fits_op {h : Hd} {len : Nat} (h1 : ¬ h.k = 1) (h2 : ¬ h.k = 2) (h4 : ¬ h.k = 4) (hf : fitsB h len = true) : h.k = 3 ∧ 0 < arI h.n ∧ (len : Int) = arI h.n := by
  unfold fitsB at hf
  rw [if_neg h1, if_neg h2] at hf
  by_cases h3 : h.k = 3
  · rw [if_pos h3] at hf
    simp only [Bool.and_eq_true, decide_eq_true_eq, beq_iff_eq] at hf
    exact ⟨h3, hf.1.1.1, hf.1.1.2⟩
  · rw [if_neg h3, if_neg h4] at hf; cases hf
mutual
theorem com_some (r : List Va) : ∀ (x : Ex), FitX x → errsX x = false → (comX r x).isSome = true
  | .mk h l, hx, he => by
    rw [FitX] at hx
    rw [errsX, Bool.or_eq_false_iff] at he
    have ih := coms_some r l hx.2 he.2
    have hlen := coms_len r l
    rw [comX_mk, topA.eq_def]
    by_cases h1 : h.k = 1
    · rw [if_pos h1]; rfl
    rw [if_neg h1]
    by_cases h2 : h.k = 2
    · rw [if_pos h2]; rfl
    rw [if_neg h2]
    have he1 := he.1
    simp only [errB, Bool.or_eq_false_iff, beq_eq_false_iff_ne, ne_eq, Bool.and_eq_false_iff, decide_eq_false_iff_not] at he1
    obtain ⟨h3, ha, hl⟩ := fits_op h1 h2 he1.1 hx.1
    have hno : ¬ (10 ≤ h.n ∧ h.n ≤ 15) := by
      rcases he1.2 with e | e | e
      · exact absurd h3 e
      · omega
      · omega
    have hc : ∀ o ∈ comXs r l, ∃ v, o = some v := fun o ho => Option.isSome_iff_exists.1 (ih o ho)
    match hm : comXs r l with
    | [] => rw [hm] at hlen; simp at hlen; omega
    | [a] =>
      rw [hm] at hlen hc
      simp only [List.length_cons, List.length_nil] at hlen
      obtain ⟨v, rfl⟩ := hc a (List.mem_cons_self ..)
      refine one_some ?_ v
      have : arI h.n = 1 := by omega
      unfold arI at this
      split at this
      · omega
      · split at this <;> omega
    | a :: b :: q =>
      rw [hm] at hc
      obtain ⟨v, rfl⟩ := hc a (List.mem_cons_self ..)
      obtain ⟨u, rfl⟩ := hc b (List.mem_cons_of_mem _ (List.mem_cons_self ..))
      show (if decA h.n v = true then some v else twoA h.n v u).isSome = true
      split
      · rfl
      · exact two_some hno v u
theorem coms_some (r : List Va) : ∀ (l : List Ex), FitXs l → errsXs l = false → ∀ o ∈ comXs r l, o.isSome = true
  | [], _, _, o, ho => by rw [comXs] at ho; cases ho
  | x :: l, hx, he, o, ho => by
    rw [FitXs] at hx
    rw [errsXs, Bool.or_eq_false_iff] at he
    rw [comXs, List.mem_cons] at ho
    rcases ho with rfl | ho
    · exact com_some r x hx.1 he.1
    · exact coms_some r l hx.2 he.2 o ho
end
end Go.Proofs.YtpokpiphnggfpaaGreatDoor
end
