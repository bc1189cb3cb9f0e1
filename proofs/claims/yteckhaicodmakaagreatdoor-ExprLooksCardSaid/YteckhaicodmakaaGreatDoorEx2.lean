/-
  Which expressions fit, but for their parts.
-/
import Derived.Test.YteckhaicodmakaaGreatDoorEx1
import Derived.Test.YteckhaicodmakaaGreatDoorExn
import Derived.Test.YteckhaicodmakaaGreatDoorCmp
import Derived.Test.YteckhaicodmakaaGreatDoorVal
import Derived.Deep.QuietTactic
import Derived.BigQuiet
namespace Go.Proofs.YteckhaicodmakaaGreatDoor
open Go.RowKit Go.Shelf

def arI (n : Int) : Int := if n = 3 ∨ n = 15 ∨ n = 16 ∨ n = 17 then 1 else if 1 ≤ n ∧ n ≤ 17 then 2 else 0
theorem arity_any (n : Int) (w : World) :
    Calls Tryz.prog 26 #[.int .i64 n] w fun e w' => e = .returned (.int .i64 (arI n)) ∧ w' = w := by
  go_enter Tryz.func26, Tryz.ntmps26
  go_wp2
  all_goals
    go_ret
    exact ⟨ret_i (by simp_all [arI] <;> omega), rfl⟩
theorem refArity_any (n : Int) (w : World) :
    Calls Tryz.prog 27 #[.int .i64 n] w fun e w' => e = .returned (.int .i64 (arI n)) ∧ w' = w := by
  go_enter Tryz.func27, Tryz.ntmps27
  go_wp2
  all_goals
    go_ret
    exact ⟨ret_i (by simp_all [arI] <;> omega), rfl⟩
def litB (k n : Int) (s : ByteArray) : Bool := okV k n s && (k != 2 || decide (0 ≤ n))
theorem isLiteral_any (k n : Int) (s : ByteArray) (w : World) (hs : s.size ≤ 9223372036854775807) :
    Calls Tryz.prog 67 #[VV k n s] w fun e w' => e = .returned (.bool (litB k n s)) ∧ Below w.heap.size w w' := by
  have hc := check_any k n s
  obtain ⟨b, hb⟩ : ∃ b, okV k n s = b := ⟨_, rfl⟩
  have HB := Lib.hid hb
  cases b
  all_goals
    rw [hb] at hc
    clear hb
    go_enter Tryz.func67, Tryz.ntmps67
    go_wp2_with fail
    refine (hc _ hs).mono ?_
    clear hc
    rintro e w1 ⟨rfl, hb1⟩
    obtain ⟨c0, c1, c2⟩ := box1 hb1
    have HB1 := Lib.hid (bt (ba _ _) hb1)
    clear hb1
    go_wp2
    all_goals
      go_ret
      exact ⟨ret_bool (by have := HB.out; simp_all [litB]), HB1.out⟩
def colB (t c : ByteArray) : Bool := isName c && (t.toList.isEmpty || isName t)
theorem isColumn_any (t c : ByteArray) (w : World) (ht : t.size ≤ 16384) (hc : c.size ≤ 16384) (hT : Tabs w) :
    Calls Tryz.prog 68 #[.string t, .string c] w fun e w' => e = .returned (.bool (colB t c)) ∧ Below w.heap.size w w' := by
  have h1 := name_any c w hc hT
  have h2 := fun w1 (hb : Below w.heap.size w w1) => name_any t w1 ht (hT.kept hb)
  obtain ⟨b, hb⟩ : ∃ b, isName c = b := ⟨_, rfl⟩
  obtain ⟨b', hb'⟩ : ∃ b', isName t = b' := ⟨_, rfl⟩
  obtain ⟨e, he⟩ : ∃ e, t.toList.isEmpty = e := ⟨_, rfl⟩
  rw [hb] at h1
  rw [hb'] at h2
  have HB := Lib.hid (show colB t c = (b && (e || b')) by rw [colB, hb, hb', he])
  clear hb hb'
  cases b
  · go_enter Tryz.func68, Tryz.ntmps68
    go_wp2_with fail
    refine h1.mono ?_
    rintro e1 w1 ⟨rfl, hb1⟩
    go_wp2
    go_ret
    rw [HB.out]
    exact ⟨rfl, hb1⟩
  · cases e
    · go_enter Tryz.func68, Tryz.ntmps68
      go_wp2_with fail
      refine h1.mono ?_
      clear h1
      rintro e1 w1 ⟨rfl, hb1⟩
      go_wp2_with fail
      refine (h2 _ hb1).mono ?_
      rintro e1 w2 ⟨rfl, hb2⟩
      go_wp2
      go_ret
      rw [HB.out]
      exact ⟨by simp, bt hb1 hb2⟩
    · go_enter Tryz.func68, Tryz.ntmps68
      go_wp2_with fail
      refine h1.mono ?_
      clear h1
      rintro e1 w1 ⟨rfl, hb1⟩
      go_wp2
      go_ret
      rw [HB.out]
      exact ⟨rfl, hb1⟩
def aggB (n l : Int) : Bool := if n = 1 then l == 0 else decide (1 < n) && decide (n ≤ 5) && l == 1
theorem isAgg_any (n l : Int) (w : World) :
    Calls Tryz.prog 69 #[.int .i64 n, .int .i64 l] w fun e w' => e = .returned (.bool (aggB n l)) ∧ w' = w := by
  go_enter Tryz.func69, Tryz.ntmps69
  go_wp2
  all_goals
    go_ret
    exact ⟨ret_bool (by simp_all [aggB] <;> omega), rfl⟩
def namelessB (h : Hd) : Bool := h.tab.toList.isEmpty && h.col.toList.isEmpty
def valuelessB (h : Hd) : Bool := eqV h.vk h.vn h.vs 0 0 ⟨#[]⟩
/-- What the program asks of an expression beside its parts. -/
def fitsB (h : Hd) (len : Nat) : Bool :=
  if h.k = 1 then litB h.vk h.vn h.vs && h.n == 0 && namelessB h && (len : Int) == 0
  else if h.k = 2 then colB h.tab h.col && decide (0 ≤ h.n) && decide (h.n < 32) && valuelessB h && (len : Int) == 0
  else if h.k = 3 then decide (0 < arI h.n) && ((len : Int) == arI h.n) && namelessB h && valuelessB h
  else if h.k = 4 then aggB h.n len && namelessB h && valuelessB h
  else false
/-- Texts of an expression that are short enough to be looked at. -/
structure Sm (h : Hd) : Prop where
  t : h.tab.size ≤ 200
  c : h.col.size ≤ 200
  v : h.vs.size ≤ 500
theorem box8 {w w1 : World} {h : Hd} {A : Option Addr} {len cap : Nat} (hb : Below (w.alloc (xbox h A len cap)).heap.size (w.alloc (xbox h A len cap)) w1) : XC w1 w.heap.size 0 h A len cap := by
  have k : ∀ o, w1.cell? ⟨w.heap.size, o, none⟩ = (w.alloc (xbox h A len cap)).cell? ⟨w.heap.size, o, none⟩ := fun o => hb.cell (p := ⟨w.heap.size, o, none⟩) (by simp)
  exact ⟨(k _).trans (by simp), (k _).trans (by simp), (k _).trans (by simp), (k _).trans (by simp), (k _).trans (by simp), (k _).trans (by simp), (k _).trans (by simp), (k _).trans (by simp)⟩
theorem box8v {w w1 : World} {a0 a1 a2 a3 a4 a5 a6 a7 : Value} {T : TypeId} (hb : Below (w.alloc (.cells #[a0, a1, a2, a3, a4, a5, a6, a7] T)).heap.size (w.alloc (.cells #[a0, a1, a2, a3, a4, a5, a6, a7] T)) w1) :
    w1.cell? ⟨w.heap.size, 0, none⟩ = some a0 ∧ w1.cell? ⟨w.heap.size, 1, none⟩ = some a1 ∧ w1.cell? ⟨w.heap.size, 2, none⟩ = some a2 ∧ w1.cell? ⟨w.heap.size, 3, none⟩ = some a3 ∧
    w1.cell? ⟨w.heap.size, 4, none⟩ = some a4 ∧ w1.cell? ⟨w.heap.size, 5, none⟩ = some a5 ∧ w1.cell? ⟨w.heap.size, 6, none⟩ = some a6 ∧ w1.cell? ⟨w.heap.size, 7, none⟩ = some a7 := by
  have k : ∀ o, w1.cell? ⟨w.heap.size, o, none⟩ = (w.alloc (.cells #[a0, a1, a2, a3, a4, a5, a6, a7] T)).cell? ⟨w.heap.size, o, none⟩ := fun o => hb.cell (p := ⟨w.heap.size, o, none⟩) (by simp)
  exact ⟨(k _).trans (by simp), (k _).trans (by simp), (k _).trans (by simp), (k _).trans (by simp), (k _).trans (by simp), (k _).trans (by simp), (k _).trans (by simp), (k _).trans (by simp)⟩
theorem drNE (w : World) (n : Nat) : Below w.heap.size w (w.drewN n) := ⟨rfl, rfl, rfl, Nat.le_refl _, fun _ _ => rfl⟩
set_option maxRecDepth 100000 in
set_option maxHeartbeats 8000000 in
theorem fits_any (h : Hd) (A : Option Addr) (len cap : Nat) (w : World) (hs : Sm h) (hT : Tabs w) (hl : len ≤ 9223372036854775807) :
    Calls Tryz.prog 56 #[XV h A len cap] w fun e w' => e = .returned (.bool (fitsB h len)) ∧ Below w.heap.size w w' := by
  obtain ⟨k, n, vk, vn, vs, tab, col⟩ := h
  obtain ⟨ht, hc, hv⟩ := hs
  simp only at ht hc hv
  obtain ⟨bL, hbL⟩ : ∃ b, litB vk vn vs = b := ⟨_, rfl⟩
  obtain ⟨bK, hbK⟩ : ∃ b, colB tab col = b := ⟨_, rfl⟩
  have HL := Lib.hid (fun w1 => isLiteral_any vk vn vs w1 (by omega))
  have HC := Lib.hid (isColumn_any tab col (w.alloc (xbox ⟨k, n, vk, vn, vs, tab, col⟩ A len cap)) (by omega) (by omega) (hT.kept (ba _ _)))
  rw [hbL] at HL
  rw [hbK] at HC
  have hq := fun w1 => run_eqV vk vn vs 0 0 ⟨#[]⟩ w1
  obtain ⟨bT, hbT⟩ : ∃ b, tab.toList.isEmpty = b := ⟨_, rfl⟩
  obtain ⟨bC, hbC⟩ : ∃ b, col.toList.isEmpty = b := ⟨_, rfl⟩
  obtain ⟨bV, hbV⟩ : ∃ b, eqV vk vn vs 0 0 ⟨#[]⟩ = b := ⟨_, rfl⟩
  rw [hbV] at hq
  have HN := Lib.hid (show namelessB ⟨k, n, vk, vn, vs, tab, col⟩ = (bT && bC) by rw [namelessB, hbT, hbC])
  have HV := Lib.hid (show valuelessB ⟨k, n, vk, vn, vs, tab, col⟩ = bV from hbV)
  have HBx := Lib.hid (ba w (xbox ⟨k, n, vk, vn, vs, tab, col⟩ A len cap))
  have HF := Lib.hid (show fitsB ⟨k, n, vk, vn, vs, tab, col⟩ len =
      if k = 1 then bL && n == 0 && (bT && bC) && (len : Int) == 0
      else if k = 2 then bK && decide (0 ≤ n) && decide (n < 32) && bV && (len : Int) == 0
      else if k = 3 then decide (0 < arI n) && ((len : Int) == arI n) && (bT && bC) && bV
      else if k = 4 then aggB n len && (bT && bC) && bV else false by
    unfold fitsB; rw [HN.out, HV.out]; simp only [hbL, hbK])
  clear hbV hT hv hbL hbK HN HV ht hc
  by_cases h1 : k = 1
  · subst h1
    simp only [if_true] at HF
    cases bT <;> cases bC
    all_goals
      go_enter Tryz.func56, Tryz.ntmps56
      go_wp2_with fail
      refine (HL.out _).mono ?_
      rintro e w1 ⟨rfl, hb1⟩
      obtain ⟨c0, c1, c2, c3, c4, c5, c6, c7⟩ := box8v hb1
      have HB1 := Lib.hid (bt HBx.out hb1)
      clear hb1
      cases bL
      all_goals
        go_wp2
        all_goals
          go_ret
          exact ⟨ret_bool (by rw [HF.out]; simp_all <;> (intros; omega)), HB1.out⟩
  · rw [if_neg h1] at HF
    by_cases h2 : k = 2
    · subst h2
      simp only [if_true] at HF
      cases bV
      all_goals
        go_enter Tryz.func56, Tryz.ntmps56
        go_wp2_with fail
        all_goals
          refine HC.out.mono ?_
          rintro e w1 ⟨rfl, hb1⟩
          obtain ⟨c0, c1, c2, c3, c4, c5, c6, c7⟩ := box8v hb1
          have HB1 := Lib.hid (bt HBx.out hb1)
          clear hb1
          cases bK
          all_goals
            go_wp2
            all_goals
              go_ret
              exact ⟨ret_bool (by rw [HF.out]; simp_all <;> (intros; omega)), HB1.out⟩
    · rw [if_neg h2] at HF
      by_cases h3 : k = 3
      · subst h3
        simp only [if_true] at HF
        rcases (show bT = false ∨ (bT = true ∧ bC = false) ∨ (bT = true ∧ bC = true) by cases bT <;> cases bC <;> simp) with hx | ⟨hx, hy⟩ | ⟨hx, hy⟩
        all_goals
          subst hx
          try subst hy
          go_enter Tryz.func56, Tryz.ntmps56
          go_wp2_with fail
          go_upto_region 9 with fail
          obtain ⟨a, ha⟩ : ∃ a, arI n = a := ⟨_, rfl⟩
          have HAr := Lib.hid (fun w1 => arity_any n w1)
          rw [ha] at HF HAr
          clear ha
          by_cases hp : 0 < a
          · by_cases hla : (len : Int) = a
            · subst hla
              have hpn : 0 < len := by omega
              have hpd : decide (0 < len) = true := by simpa using hpn
              clear hp
              go_quiet ((go_at_call 26; exact Calls.quiet_of_same (HAr.out _)))
              go_wp2_with fail
              go_ret
              exact ⟨ret_bool (by rw [HF.out]; simp_all <;> (intros; omega)), bt HBx.out (drNE _ _)⟩
            · have hpb : decide (0 < a) = true := by simpa using hp
              have hlb : ((len : Int) == a) = false := by simpa using hla
              go_quiet ((go_at_call 26; exact Calls.quiet_of_same (HAr.out _)))
              go_wp2_with fail
              go_ret
              exact ⟨ret_bool (by rw [HF.out]; simp_all <;> (intros; omega)), bt HBx.out (drNE _ _)⟩
          · have hpb : decide (0 < a) = false := by simpa using hp
            go_quiet ((go_at_call 26; exact Calls.quiet_of_same (HAr.out _)))
            go_wp2_with fail
            go_ret
            exact ⟨ret_bool (by rw [HF.out]; simp_all <;> (intros; omega)), bt HBx.out (drNE _ _)⟩
      · rw [if_neg h3] at HF
        by_cases h4 : k = 4
        · subst h4
          simp only [if_true] at HF
          cases bT <;> cases bC <;> cases bV
          all_goals
            go_enter Tryz.func56, Tryz.ntmps56
            go_wp2_with fail
            refine (isAgg_any _ _ _).mono ?_
            rintro e w1 ⟨rfl, rfl⟩
            obtain ⟨bA, hbA⟩ : ∃ b, aggB n len = b := ⟨_, rfl⟩
            rw [hbA] at HF ⊢
            clear hbA
            cases bA
            all_goals
              go_wp2
              go_ret
              exact ⟨ret_bool (by rw [HF.out]; simp), HBx.out⟩
        · rw [if_neg h4] at HF
          cases bT <;> cases bC <;> cases bV
          all_goals
            go_enter Tryz.func56, Tryz.ntmps56
            go_wp2
            go_ret
            exact ⟨ret_bool HF.out.symm, HBx.out⟩
end Go.Proofs.YteckhaicodmakaaGreatDoor
