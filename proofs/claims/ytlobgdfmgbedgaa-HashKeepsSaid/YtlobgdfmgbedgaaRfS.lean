/-
  Contract of the document's own Sort: the rows in order, by halves.
-/
import Derived.Test.YtlobgdfmgbedgaaLst2
import Derived.Deep.LoopGhost
import Derived.IntWalk
import Derived.Deep.QuietTactic
import Derived.BigQuiet
namespace Go.Proofs.Ytlobgdfmgbedgaa
open Go.RowKit Go.Shelf

def leR (a b : List Va) : Bool := decide (cmpR a b ≤ 0)
def InOrder (l : List (List Va)) : Prop := l.Pairwise (fun a b => leR a b = true)
theorem leR_trans (a b c : List Va) (h1 : leR a b = true) (h2 : leR b c = true) : leR a c = true := by
  simp [leR] at *; exact cmpR_trans h1 h2
theorem leR_total (a b : List Va) : (leR a b || leR b a) = true := by
  have := cmpR_anti a b
  simp [leR]; omega
theorem InOrder.merge {a b : List (List Va)} (ha : InOrder a) (hb : InOrder b) : InOrder (a.merge b leR) := List.pairwise_merge leR_trans leR_total a b ha hb
theorem InOrder.eq {a b : List (List Va)} (ha : InOrder a) (hb : InOrder b) (hp : a.Perm b) : a = b :=
  hp.eq_of_pairwise (fun x y _ _ h1 h2 => by
    have := cmpR_anti x y
    simp [leR] at h1 h2
    exact cmpR_eq (by omega)) ha hb

/-- The end of the document's own Sort. -/
def RefSortEnd (w : World) (rs : List (List Va)) (e : Ending) (w' : World) : Prop :=
  Below w.heap.size w w' ∧ ∃ A c rs', e = .returned (.slice A rs.length c) ∧ RowsAt w' A rs' ∧ rs'.Perm rs ∧ InOrder rs' ∧ (A = none → c = 0) ∧ rs.length ≤ c

theorem own_drewN {w : World} {B : Nat} {v : Value} {p : List (List Va)} (q : Nat) (h : ListOwn w B v p) : ListOwn (w.drewN q) B v p :=
  h.same (w' := w.drewN q) ⟨⟨rfl, rfl, rfl, Nat.le_refl _, fun _ _ => rfl⟩, fun _ _ _ h => h⟩ (fun _ _ => rfl)

def lenOf : Value → Nat
  | .slice _ n _ => n
  | _ => 0

theorem own_end {w : World} {B : Nat} {v : Value} {p : List (List Va)} (h : ListOwn w B v p) : ∃ A c, v = .slice A p.length c ∧ RowsAt w A p ∧ (A = none → c = 0) ∧ p.length ≤ c := by
  obtain ⟨A, c, rfl, hr, hA⟩ := h.inB
  refine ⟨A, c, rfl, hr.rows, hA, ?_⟩
  obtain ⟨xs, ho, _⟩ := h
  rcases ho.2 with ⟨hv, hn⟩ | ⟨g, cap, cur, hv, _, _, hnc, _⟩
  · omega
  · cases hv; exact hnc

set_option maxRecDepth 100000 in
set_option maxHeartbeats 2000000 in
theorem refSort_short (B : Option Addr) (N c : Nat) (rs : List (List Va)) (w : World) (hN : rs.length = N) (h2 : N < 2) (h : RowsAt w B rs) (hB : B = none → c = 0) :
    Calls Try.prog 29 #[.slice B N c] w (RefSortEnd w rs) := by
  have HI := Lib.hid ((h.inB (Nat.le_refl _)).kept (Nat.le_refl _) (ba w (.cells #[] 22)))
  have HO := Lib.hid (owns_emptyL w _ _ rfl (Nat.le_refl _))
  have HN := Lib.hid hN
  have hN' : (N : Int) < 2 := by omega
  clear h hN
  go_enter Try.func29, Try.ntmps29
  go_wp2_with (at_builtin; refine wpList_appL rfl (.tmp 9) (.tmp 10) rfl (.slice (some ⟨w.heap.size, 0, none⟩) 0 0) [] B c N rs _ w.heap.size rfl rfl HN.out HO.out HI.out hB ?c1 ?c2 ?_)
  case c1 => simp
  case c2 => rw [HN.out]; simp; omega
  intro v' w' hl hG
  have hl : ListOwn w' w.heap.size v' rs := by simpa using hl
  obtain ⟨A9, c9, rfl, hr9, hA9, hc9⟩ := own_end hl
  have HR := Lib.hid hr9
  have HB := Lib.hid ((ba w _).trans hG.1)
  have HS := Lib.hid (show InOrder rs by
    match rs, HN.out with
    | [], _ => exact List.Pairwise.nil
    | [a], _ => exact List.pairwise_singleton _ _
    | a :: b :: t, h => exfalso; simp at h; omega)
  have HA9 := Lib.hid hA9
  have HC9 := Lib.hid hc9
  clear hl hG hr9 hA9 hc9
  go_wp2_with fail
  go_ret
  exact ⟨HB.out, A9, c9, rs, rfl, HR.out, List.Perm.refl _, HS.out, HA9.out, HC9.out⟩

set_option maxRecDepth 100000 in
set_option maxHeartbeats 4000000 in
theorem refSort_step (n : Nat) (ih : ∀ (B : Option Addr) (N c : Nat) (rs : List (List Va)) (w : World), rs.length = N → N ≤ n → N ≤ c → N ≤ 65536 → RowsAt w B rs → (B = none → c = 0) → (∀ r ∈ rs, r.length ≤ 65536) → Calls Try.prog 29 #[.slice B N c] w (RefSortEnd w rs))
    (B : Option Addr) (N c : Nat) (rs : List (List Va)) (w : World) (hN : rs.length = N) (hn : N ≤ n + 1) (hc : N ≤ c) (h16 : N ≤ 65536) (h : RowsAt w B rs) (hB : B = none → c = 0) (hl : ∀ r ∈ rs, r.length ≤ 65536) (h2 : 2 ≤ N) :
    Calls Try.prog 29 #[.slice B N c] w (RefSortEnd w rs) := by
  obtain ⟨k, hk⟩ : ∃ k, k = N / 2 := ⟨_, rfl⟩
  have hk1 : k ≤ N := by omega
  have hq : (N : Int) / 2 = (k : Int) := by omega
  have hq2 : ¬ (N : Int) < 2 := by omega
  have hq1 : (N : Int).tdiv 2 = (k : Int) := by rw [Int.tdiv_eq_ediv_of_nonneg (by omega)]; exact hq
  have hq3 : IntKind.i64.wrap (k : Int) = (k : Int) := IntWalk.i64_in _ (by omega)
  have k0 : (0 : Int) ≤ (k : Int) := Int.natCast_nonneg _
  have k1 : (k : Int) ≤ (N : Int) := by omega
  have k2 : (k : Int) ≤ (c : Int) := by omega
  have hfrom := run_fromL B N c k hk1
  have HI1 := Lib.hid (fun (W : World) (hW : Below w.heap.size w W) => (ih B k c (rs.take k) W (by simp; omega) (by omega) (by omega) (by omega) ((h.take k).kept hW) hB (fun r hr => hl r (List.mem_of_mem_take hr))).mono (fun e w' hq => (show RefSortEnd W (rs.take k) e w' ∧ Below w.heap.size w w' from ⟨hq, bt hW hq.1⟩)))
  have HI2 := Lib.hid (fun (W : World) (hW : Below w.heap.size w W) => (ih (adv B c k) (N - k) (c - k) (rs.drop k) W (by simp; omega) (by omega) (by omega) (by omega) ((h.drop c k (by omega)).kept hW) (adv_none hB (by omega)) (fun r hr => hl r (List.mem_of_mem_drop hr))).mono (fun e w' hq => (show RefSortEnd W (rs.drop k) e w' ∧ Below w.heap.size w w' from ⟨hq, bt hW hq.1⟩)))
  have HL := Lib.hid hl
  have HN := Lib.hid hN
  have HK := Lib.hid hk
  clear h hl hN ih hk
  generalize adv B c k = B2 at hfrom HI2
  go_enter Try.func29, Try.ntmps29
  go_wp2_with fail
  have hB1 := Below.drew (Below.refl w.heap.size w)
  go_region_held3 (fun w' => Below w.heap.size w w')
    (first
      | exact hB1
      | exact hb2
      | exact hb3)
    (first
      | (go_at_call 29; (with_reducible refine (HI1.out _ ?_).mono ?_); exact hB1; rintro e w2 ⟨⟨hba, Aa, ca, la, rfl, hra, hpa, hoa, hna, hca⟩, hb2⟩; rw [show (rs.take k).length = k by rw [List.length_take, HN.out]; omega]; have HRa := Lib.hid hra; have HPa := Lib.hid hpa; have HOa := Lib.hid hoa; clear hra hpa hoa hba)
      | (go_at_call 29; (with_reducible refine (HI2.out _ ?_).mono ?_); exact hb2; rintro e w3 ⟨⟨hbb, Ab, cb, lb, rfl, hrb, hpb, hob, hnb, hcb⟩, hb3⟩; rw [show (rs.drop k).length = N - k by rw [List.length_drop, HN.out]]; have HRb := Lib.hid hrb; have HPb := Lib.hid hpb; have HOb := Lib.hid hob; have HBb := Lib.hid hbb; clear hrb hpb hob hbb))
  have hbt := bt hb2 (HBb.out)
  have HB3 := Lib.hid hbt
  have HRa := Lib.hid (HRa.out.kept HBb.out)
  have HM := Lib.hid (show (la.merge lb leR).Perm rs by
    refine (List.merge_perm_append leR).trans ((HPa.out.append HPb.out).trans ?_)
    rw [List.take_append_drop])
  have HMO := Lib.hid (HOa.out.merge HOb.out)
  have HLa := Lib.hid (show ∀ r ∈ la, r.length ≤ 65536 from fun r hr => HL.out r (List.mem_of_mem_take (HPa.out.mem_iff.1 hr)))
  have HLb := Lib.hid (show ∀ r ∈ lb, r.length ≤ 65536 from fun r hr => HL.out r (List.mem_of_mem_drop (HPb.out.mem_iff.1 hr)))
  have HCa := Lib.hid (show k ≤ ca by have := hca; rw [List.length_take, HN.out] at this; omega)
  have HCb := Lib.hid (show N - k ≤ cb by have := hcb; rw [List.length_drop, HN.out] at this; omega)
  have HLna := Lib.hid (show la.length = k by rw [HPa.out.length_eq, List.length_take, HN.out]; omega)
  have HLnb := Lib.hid (show lb.length = N - k by rw [HPb.out.length_eq, List.length_drop, HN.out])
  rename_i hold
  clear hold hbt hb2 hb3 hfrom HI1 HI2 HOa HOb HPa HPb hB1
  go_wp2_with fail
  go_loopw [3, 4, 5] (fun va vb vo wr => ∃ (Xa Xb : Option Addr) (n m ka kb : Nat) (xs ys p : List (List Va)), va = .slice Xa n ka ∧ vb = .slice Xb m kb ∧ n + m + p.length = N ∧ n ≤ ka ∧ m ≤ kb ∧ Hid (xs.length = n) ∧ Hid (ys.length = m) ∧ Hid (RowsAt w3 Xa xs) ∧ Hid (RowsAt w3 Xb ys) ∧ Hid (ListOwn wr w3.heap.size vo p) ∧ Hid (Below w3.heap.size w3 wr) ∧ Hid (la.merge lb leR = p ++ xs.merge ys leR) ∧ Hid (∀ r ∈ xs, r.length ≤ 65536) ∧ Hid (∀ r ∈ ys, r.length ≤ 65536)) (fun va vb _ _ => lenOf va + lenOf vb)
  case atStart => exact ⟨Aa, Ab, k, N - k, ca, cb, la, lb, [], rfl, rfl, by simp; omega, by have := HCa.out; omega, by have := HCb.out; omega, HLna, HLnb, HRa, HRb, Lib.hid (ListOwn.nil _ _), Lib.hid (Below.refl _ _), Lib.hid (by simp), HLa, HLb⟩
  case round =>
    obtain ⟨Xa, Xb, n, m, ka, kb, xs, ys, p, rfl, rfl, hsum, hka, hkb, HX, HY, HRx, HRy, HOw, HBw, HMg, HLx, HLy⟩ := hrel
    clear HRa HRb HLa HLb HLna HLnb
    by_cases hm0 : m = 0
    · subst hm0
      by_cases hn0 : n = 0
      · subst hn0
        have ex : xs = [] := List.eq_nil_of_length_eq_zero HX.out
        have ey : ys = [] := List.eq_nil_of_length_eq_zero HY.out
        have HE := Lib.hid (show la.merge lb leR = p by rw [HMg.out, ex, ey]; simp)
        obtain ⟨A9, c9, rfl, hr9, hA9, hc9⟩ := own_end HOw.out
        have HR9 := Lib.hid hr9
        have HA9 := Lib.hid hA9
        have HC9 := Lib.hid hc9
        clear hr9 hA9 hc9 ex ey
        go_wp2_with fail
        go_ret
        refine ⟨bt HB3.out HBw.out, A9, c9, p, ?_, HR9.out, ?_, ?_, HA9.out, ?_⟩
        · rw [HN.out, ← hsum]; simp
        · rw [← HE.out]; exact HM.out
        · rw [← HE.out]; exact HMO.out
        · rw [HN.out]; have := HC9.out; omega
      · have hn1 : (0 : Int) < (n : Int) := by omega
        obtain ⟨x, xs', rfl⟩ : ∃ z zs, xs = z :: zs := by
          cases xs with
          | nil => exfalso; have := HX.out; simp at this; omega
          | cons z zs => exact ⟨z, zs, rfl⟩
        have HRn := Lib.hid (show RowsAt w3 (adv Xa ka 1) xs' from HRx.out.drop ka 1 (by rw [HX.out]; exact hka))
        have hfr : ∀ W, (Instr.slice 39 (.slice Xa n ka) (some (.int .i64 1)) none none).run Try.prog W = .ok (.slice (adv Xa ka 1) (n - 1) (ka - 1)) W := fun W => run_fromL Xa n ka 1 (by omega) W
        have HLn := Lib.hid (show ∀ r ∈ xs', r.length ≤ 65536 from fun r hr => HLx.out r (by simp [hr]))
        have HX1 := Lib.hid (show xs'.length = n - 1 by have := HX.out; simp at this; omega)
        generalize adv Xa ka 1 = Xn at HRn hfr
        go_wp2_with fail
        go_quiet (fail)
        have HOw := Lib.hid (show ListOwn (wr.drewN nq) w3.heap.size u5 p from own_drewN nq HOw.out)
        have HBw := Lib.hid (show Below w3.heap.size w3 (wr.drewN nq) from ⟨HBw.out.os, HBw.out.tape, HBw.out.output, HBw.out.size, HBw.out.block⟩)
        generalize wr.drewN nq = W1 at HOw HBw ⊢
        have HSz := Lib.hid HBw.out.size
        obtain ⟨bz, oz, hAz, hbz, A0, q0, z0, hz0, hzel, hzA⟩ := HRx.out.at HBw.out (i := 0) (by simp)
        cases hAz
        rw [Nat.add_zero] at z0
        change W1.cell? _ = some (.slice A0 x.length q0) at z0
        have HEL := Lib.hid (show ElemAt W1 w3.heap.size A0 x from hzel)
        have HA0 := Lib.hid hzA
        clear hz0 hzel hzA
        have ey : ys = [] := List.eq_nil_of_length_eq_zero HY.out
        have HMn := Lib.hid (show la.merge lb leR = (p ++ [x]) ++ xs'.merge ys leR by rw [HMg.out, ey]; simp [List.merge_right])
        clear ey
        go_wp2_with (at_builtin; refine wpList_pushL rfl (.tmp 50) (.tmp 54) rfl u5 p A0 q0 x _ w3.heap.size W1.heap.size rfl rfl (HOw.out.kept HSz.out (ba _ _)) (HEL.out.alloc HSz.out _) HA0.out (heap_alloc_new _ _) ?c1 ?c2 ?_)
        case c1 => have := HSz.out; simp; omega
        case c2 => omega
        intro g9 cap9 w9 hlo9 hgr9 _ hG9
        have HOn := Lib.hid hlo9
        have HBn := Lib.hid ((HBw.out.trans ((ba W1 _).mono HSz.out)).trans hG9.1)
        clear hlo9 hgr9 hG9
        go_wp2_with fail
        go_roundw
        case rel => exact ⟨Xn, _, n - 1, 0, ka - 1, kb, xs', ys, p ++ [x], rfl, rfl, by simp; omega, by omega, hkb, HX1, HY, HRn, HRy, HOn, HBn, HMn, HLn, HLy⟩
        case measure => simp [lenOf]; omega
    · have hm1 : ((m : Int) == 0) = false := beq_eq_false_iff_ne.2 (by omega)
      have hm2 : (0 : Int) < (m : Int) := by omega
      by_cases hn0 : n = 0
      · subst hn0
        obtain ⟨y, ys', rfl⟩ : ∃ z zs, ys = z :: zs := by
          cases ys with
          | nil => exfalso; have := HY.out; simp at this; omega
          | cons z zs => exact ⟨z, zs, rfl⟩
        have HRn := Lib.hid (show RowsAt w3 (adv Xb kb 1) ys' from HRy.out.drop kb 1 (by rw [HY.out]; exact hkb))
        have hfr : ∀ W, (Instr.slice 39 (.slice Xb m kb) (some (.int .i64 1)) none none).run Try.prog W = .ok (.slice (adv Xb kb 1) (m - 1) (kb - 1)) W := fun W => run_fromL Xb m kb 1 (by omega) W
        have HLn := Lib.hid (show ∀ r ∈ ys', r.length ≤ 65536 from fun r hr => HLy.out r (by simp [hr]))
        have HY1 := Lib.hid (show ys'.length = m - 1 by have := HY.out; simp at this; omega)
        generalize adv Xb kb 1 = Xn at HRn hfr
        go_wp2_with fail
        go_quiet (fail)
        have HOw := Lib.hid (show ListOwn (wr.drewN nq) w3.heap.size u5 p from own_drewN nq HOw.out)
        have HBw := Lib.hid (show Below w3.heap.size w3 (wr.drewN nq) from ⟨HBw.out.os, HBw.out.tape, HBw.out.output, HBw.out.size, HBw.out.block⟩)
        generalize wr.drewN nq = W1 at HOw HBw ⊢
        have HSz := Lib.hid HBw.out.size
        obtain ⟨bz, oz, hAz, hbz, A0, q0, z0, hz0, hzel, hzA⟩ := HRy.out.at HBw.out (i := 0) (by simp)
        cases hAz
        rw [Nat.add_zero] at z0
        change W1.cell? _ = some (.slice A0 y.length q0) at z0
        have HEL := Lib.hid (show ElemAt W1 w3.heap.size A0 y from hzel)
        have HA0 := Lib.hid hzA
        clear hz0 hzel hzA
        have ex : xs = [] := List.eq_nil_of_length_eq_zero HX.out
        have HMn := Lib.hid (show la.merge lb leR = (p ++ [y]) ++ xs.merge ys' leR by rw [HMg.out, ex]; simp [List.nil_merge])
        clear ex
        go_wp2_with (at_builtin; refine wpList_pushL rfl (.tmp 58) (.tmp 62) rfl u5 p A0 q0 y _ w3.heap.size W1.heap.size rfl rfl (HOw.out.kept HSz.out (ba _ _)) (HEL.out.alloc HSz.out _) HA0.out (heap_alloc_new _ _) ?c1 ?c2 ?_)
        case c1 => have := HSz.out; simp; omega
        case c2 => omega
        intro g9 cap9 w9 hlo9 hgr9 _ hG9
        have HOn := Lib.hid hlo9
        have HBn := Lib.hid ((HBw.out.trans ((ba W1 _).mono HSz.out)).trans hG9.1)
        clear hlo9 hgr9 hG9
        go_wp2_with fail
        go_roundw
        case rel => exact ⟨_, Xn, 0, m - 1, ka, kb - 1, xs, ys', p ++ [y], rfl, rfl, by simp; omega, hka, by omega, HX, HY1, HRx, HRn, HOn, HBn, HMn, HLx, HLn⟩
        case measure => simp [lenOf]; omega
      · have hn1 : (0 : Int) < (n : Int) := by omega
        have hn2 : 0 < n := by omega
        have hn3 : decide (0 < n) = true := by simp; omega
        have hm3 : 0 < m := by omega
        have hm4 : decide ((0 : Int) < (n : Int)) = true := by simp; omega
        obtain ⟨x, xs', rfl⟩ : ∃ z zs, xs = z :: zs := by
          cases xs with
          | nil => exfalso; have := HX.out; simp at this; omega
          | cons z zs => exact ⟨z, zs, rfl⟩
        obtain ⟨y, ys', rfl⟩ : ∃ z zs, ys = z :: zs := by
          cases ys with
          | nil => exfalso; have := HY.out; simp at this; omega
          | cons z zs => exact ⟨z, zs, rfl⟩
        by_cases hcase : cmpR x y ≤ 0
        · have HRn := Lib.hid (show RowsAt w3 (adv Xa ka 1) xs' from HRx.out.drop ka 1 (by rw [HX.out]; exact hka))
          have hfr : ∀ W, (Instr.slice 39 (.slice Xa n ka) (some (.int .i64 1)) none none).run Try.prog W = .ok (.slice (adv Xa ka 1) (n - 1) (ka - 1)) W := fun W => run_fromL Xa n ka 1 (by omega) W
          have HLn := Lib.hid (show ∀ r ∈ xs', r.length ≤ 65536 from fun r hr => HLx.out r (by simp [hr]))
          have HX1 := Lib.hid (show xs'.length = n - 1 by have := HX.out; simp at this; omega)
          generalize adv Xa ka 1 = Xn at HRn hfr
          obtain ⟨ba', oa, rfl, hba, A1, q1, z1, hz1, hzel1, hzA1⟩ := HRx.out.at HBw.out (i := 0) (by simp)
          obtain ⟨bb', ob, rfl, hbb, A2, q2, z2, hz2, hzel2, hzA2⟩ := HRy.out.at HBw.out (i := 0) (by simp)
          have hxl := HLx.out x (by simp)
          have hyl := HLy.out y (by simp)
          have HR1 := Lib.hid hz1
          have HR2 := Lib.hid hz2
          change wr.cell? ⟨ba', oa, none⟩ = some (.slice A1 x.length q1) at z1
          change wr.cell? ⟨bb', ob, none⟩ = some (.slice A2 y.length q2) at z2
          clear hz1 hz2 hzel1 hzel2 hzA1 hzA2
          have HZ := Lib.hid (fun (W : World) (hW : Below wr.heap.size wr W) => (refRowCompare_any A1 A2 q1 q2 x y W (HR1.out.kept hW) (HR2.out.kept hW) (by omega) (by omega)).mono (fun e w' (hq : _ ∧ _) => (show e = .returned (.int .i64 (cmpR x y)) ∧ Below wr.heap.size wr w' from ⟨hq.1, bt hW hq.2⟩)))
          generalize hcm : cmpR x y = z at HZ hcase
          have HCM := Lib.hid hcm
          clear hcm
          have hB1 := Below.drew (Below.refl wr.heap.size wr)
          go_wp2_with fail
          go_region_held3 (fun w' => Below wr.heap.size wr w' ∧ w'.cell? ⟨ba', oa, none⟩ = some (.slice A1 x.length q1) ∧ w'.cell? ⟨bb', ob, none⟩ = some (.slice A2 y.length q2))
            (first
              | exact ⟨hB1, z1, z2⟩
              | exact ⟨hbx, cell_kept hbx z1, cell_kept hbx z2⟩)
            (first
              | (go_at_call 73; refine (HZ.out _ (by exact hB1)).mono ?_; rintro e W1 ⟨rfl, hbx⟩))
          rename_i hold
          have HOw := Lib.hid (HOw.out.kept HBw.out.size hold.1)
          have HBw := Lib.hid (HBw.out.trans (hold.1.mono HBw.out.size))
          have HSz := Lib.hid HBw.out.size
          clear hold z1 z2 HZ hB1 hbx
          obtain ⟨bz, oz, hAz, hbz, A0, q0, z0, hz0, hzel, hzA⟩ := HRx.out.at HBw.out (i := 0) (by simp)
          cases hAz
          rw [Nat.add_zero] at z0
          change W1.cell? _ = some (.slice A0 x.length q0) at z0
          have HEL := Lib.hid (show ElemAt W1 w3.heap.size A0 x from hzel)
          have HA0 := Lib.hid hzA
          clear hz0 hzel hzA
          have HMn := Lib.hid (show la.merge lb leR = (p ++ [x]) ++ xs'.merge (y :: ys') leR by rw [HMg.out, List.cons_merge_cons, if_pos (by simp [leR, HCM.out]; omega)]; simp)
          go_wp2_with (at_builtin; refine wpList_pushL rfl (.tmp 50) (.tmp 54) rfl u5 p A0 q0 x _ w3.heap.size W1.heap.size rfl rfl (HOw.out.kept HSz.out (ba _ _)) (HEL.out.alloc HSz.out _) HA0.out (heap_alloc_new _ _) ?c1 ?c2 ?_)
          case c1 => have := HSz.out; simp; omega
          case c2 => omega
          intro g9 cap9 w9 hlo9 hgr9 _ hG9
          have HOn := Lib.hid hlo9
          have HBn := Lib.hid ((HBw.out.trans ((ba W1 _).mono HSz.out)).trans hG9.1)
          clear hlo9 hgr9 hG9
          go_wp2_with fail
          go_roundw
          case rel => exact ⟨Xn, _, n - 1, m, ka - 1, kb, xs', (y :: ys'), p ++ [x], rfl, rfl, by simp; omega, by omega, hkb, HX1, HY, HRn, HRy, HOn, HBn, HMn, HLn, HLy⟩
          case measure => simp [lenOf]; omega
        · have hcase : ¬ cmpR x y ≤ 0 := hcase
          have HRn := Lib.hid (show RowsAt w3 (adv Xb kb 1) ys' from HRy.out.drop kb 1 (by rw [HY.out]; exact hkb))
          have hfr : ∀ W, (Instr.slice 39 (.slice Xb m kb) (some (.int .i64 1)) none none).run Try.prog W = .ok (.slice (adv Xb kb 1) (m - 1) (kb - 1)) W := fun W => run_fromL Xb m kb 1 (by omega) W
          have HLn := Lib.hid (show ∀ r ∈ ys', r.length ≤ 65536 from fun r hr => HLy.out r (by simp [hr]))
          have HY1 := Lib.hid (show ys'.length = m - 1 by have := HY.out; simp at this; omega)
          generalize adv Xb kb 1 = Xn at HRn hfr
          obtain ⟨ba', oa, rfl, hba, A1, q1, z1, hz1, hzel1, hzA1⟩ := HRx.out.at HBw.out (i := 0) (by simp)
          obtain ⟨bb', ob, rfl, hbb, A2, q2, z2, hz2, hzel2, hzA2⟩ := HRy.out.at HBw.out (i := 0) (by simp)
          have hxl := HLx.out x (by simp)
          have hyl := HLy.out y (by simp)
          have HR1 := Lib.hid hz1
          have HR2 := Lib.hid hz2
          change wr.cell? ⟨ba', oa, none⟩ = some (.slice A1 x.length q1) at z1
          change wr.cell? ⟨bb', ob, none⟩ = some (.slice A2 y.length q2) at z2
          clear hz1 hz2 hzel1 hzel2 hzA1 hzA2
          have HZ := Lib.hid (fun (W : World) (hW : Below wr.heap.size wr W) => (refRowCompare_any A1 A2 q1 q2 x y W (HR1.out.kept hW) (HR2.out.kept hW) (by omega) (by omega)).mono (fun e w' (hq : _ ∧ _) => (show e = .returned (.int .i64 (cmpR x y)) ∧ Below wr.heap.size wr w' from ⟨hq.1, bt hW hq.2⟩)))
          generalize hcm : cmpR x y = z at HZ hcase
          have HCM := Lib.hid hcm
          clear hcm
          have hB1 := Below.drew (Below.refl wr.heap.size wr)
          go_wp2_with fail
          go_region_held3 (fun w' => Below wr.heap.size wr w' ∧ w'.cell? ⟨ba', oa, none⟩ = some (.slice A1 x.length q1) ∧ w'.cell? ⟨bb', ob, none⟩ = some (.slice A2 y.length q2))
            (first
              | exact ⟨hB1, z1, z2⟩
              | exact ⟨hbx, cell_kept hbx z1, cell_kept hbx z2⟩)
            (first
              | (go_at_call 73; refine (HZ.out _ (by exact hB1)).mono ?_; rintro e W1 ⟨rfl, hbx⟩))
          rename_i hold
          have HOw := Lib.hid (HOw.out.kept HBw.out.size hold.1)
          have HBw := Lib.hid (HBw.out.trans (hold.1.mono HBw.out.size))
          have HSz := Lib.hid HBw.out.size
          clear hold z1 z2 HZ hB1 hbx
          obtain ⟨bz, oz, hAz, hbz, A0, q0, z0, hz0, hzel, hzA⟩ := HRy.out.at HBw.out (i := 0) (by simp)
          cases hAz
          rw [Nat.add_zero] at z0
          change W1.cell? _ = some (.slice A0 y.length q0) at z0
          have HEL := Lib.hid (show ElemAt W1 w3.heap.size A0 y from hzel)
          have HA0 := Lib.hid hzA
          clear hz0 hzel hzA
          have HMn := Lib.hid (show la.merge lb leR = (p ++ [y]) ++ (x :: xs').merge ys' leR by rw [HMg.out, List.cons_merge_cons, if_neg (by simp [leR, HCM.out]; omega)]; simp)
          go_wp2_with (at_builtin; refine wpList_pushL rfl (.tmp 58) (.tmp 62) rfl u5 p A0 q0 y _ w3.heap.size W1.heap.size rfl rfl (HOw.out.kept HSz.out (ba _ _)) (HEL.out.alloc HSz.out _) HA0.out (heap_alloc_new _ _) ?c1 ?c2 ?_)
          case c1 => have := HSz.out; simp; omega
          case c2 => omega
          intro g9 cap9 w9 hlo9 hgr9 _ hG9
          have HOn := Lib.hid hlo9
          have HBn := Lib.hid ((HBw.out.trans ((ba W1 _).mono HSz.out)).trans hG9.1)
          clear hlo9 hgr9 hG9
          go_wp2_with fail
          go_roundw
          case rel => exact ⟨_, Xn, n, m - 1, ka, kb - 1, (x :: xs'), ys', p ++ [y], rfl, rfl, by simp; omega, hka, by omega, HX, HY1, HRx, HRn, HOn, HBn, HMn, HLx, HLn⟩
          case measure => simp [lenOf]; omega

theorem refSort_any : ∀ (n : Nat) (B : Option Addr) (N c : Nat) (rs : List (List Va)) (w : World), rs.length = N → N ≤ n → N ≤ c → N ≤ 65536 → RowsAt w B rs → (B = none → c = 0) → (∀ r ∈ rs, r.length ≤ 65536) → Calls Try.prog 29 #[.slice B N c] w (RefSortEnd w rs) := by
  intro n
  induction n with
  | zero => intro B N c rs w hN hn hc h16 h hB hl; exact refSort_short B N c rs w hN (by omega) h hB
  | succ n ih =>
    intro B N c rs w hN hn hc h16 h hB hl
    by_cases h2 : N < 2
    · exact refSort_short B N c rs w hN h2 h hB
    · exact refSort_step n ih B N c rs w hN hn hc h16 h hB hl (by omega)
end Go.Proofs.Ytlobgdfmgbedgaa
