/-
  The document's Depth and Safe.
All.
  What must come of every program: expr's lives.
The document's All: expressions together.
Lists of expressions whose parts lie in older memory; the document's Kinds.
-/
import Derived.Test.YtpokpiphnggfpaaGreatDoorZ15
import Derived.Maps.AppendAt
import Derived.Laws.AppendOwnNone
section
namespace Go.Proofs.YtpokpiphnggfpaaGreatDoor
open Go.RowKit Go.Shelf

/-- A part of an expression, in memory, found again. -/
theorem kid_at {W : World} {w : World} {l : List Ex} {A : Option Addr} {j : Nat} (hX : XsAt w.heap.size w l A) (hb : Below w.heap.size w W) (hj : j < l.length) :
    ∃ h' l' g o A' cap', l[j]? = some (.mk h' l') ∧ A = some ⟨g, o, none⟩ ∧ g < W.heap.size ∧ XC W g (o + j * 8) h' A' l'.length cap' ∧ l'.length ≤ cap' ∧ XsAt W.heap.size W l' A' := by
  obtain ⟨x, hx⟩ : ∃ x, l[j]? = some x := ⟨_, List.getElem?_eq_getElem hj⟩
  obtain ⟨h', l'⟩ := x
  obtain ⟨g, o, A', cap', e, hg, hc, hl, hx2⟩ := hX.at hx
  exact ⟨h', l', g, o, A', cap', hx, e, Nat.lt_of_lt_of_le hg hb.size, hc.of (hb.block g hg), hl, XsAt.next hx2 hb⟩
set_option maxHeartbeats 4000000 in
theorem refSafe_n : ∀ (N : Nat) (h : Hd) (l : List Ex), cnt (.mk h l) ≤ N → N ≤ 1000000 → ∀ (w : World) (A : Option Addr) (cap : Nat), XsAt w.heap.size w l A →
    Calls Tryz.prog 8 #[XV h A l.length cap] w fun e w' => e = .returned (.bool (!errsX (.mk h l))) ∧ Below w.heap.size w w' := by
  intro N
  induction N with
  | zero => intro h l hc; have := cnt_pos (.mk h l); omega
  | succ N ih =>
    intro h l hc hN w A cap hX
    rw [cnt_mk] at hc
    have hlen := cntL_len l
    have hba := ba w (xbox h A l.length cap)
    have HX0 := Lib.hid (MapKept.heap_alloc w (xbox h A l.length cap)).1
    have HBa := Lib.hid hba
    have HXl := Lib.hid hX
    have HI := Lib.hid (show ∀ (h' : Hd) (l' : List Ex), cnt (.mk h' l') ≤ N → ∀ (w1 : World) (A' : Option Addr) (cap' : Nat), XsAt w1.heap.size w1 l' A' →
        Calls Tryz.prog 8 #[XV h' A' l'.length cap'] w1 fun e w' => e = .returned (.bool (!errsX (.mk h' l'))) ∧ Below w1.heap.size w1 w' from fun h' l' hc' w1 A' cap' hx => ih h' l' hc' (by omega) w1 A' cap' hx)
    have HD := Lib.hid (show errsX (.mk h l) = (errB h || errsXs l) by rw [errsX])
    have hl6 : l.length ≤ 1000000 := by omega
    clear hX ih hba
    obtain ⟨k, n, vk, vn, vs, tab, col⟩ := h
    obtain ⟨W0, hW0⟩ : ∃ W0, w.alloc (xbox ⟨k, n, vk, vn, vs, tab, col⟩ A l.length cap) = W0 := ⟨_, rfl⟩
    have HW0 := Lib.hid hW0
    have hsz0 : W0.heap.size = w.heap.size + 1 := by rw [← hW0, World.size_alloc]
    clear hW0
    have HEr := Lib.hid (show errB ⟨k, n, vk, vn, vs, tab, col⟩ = (k == 4 || (k == 3 && (decide (10 ≤ n) && decide (n ≤ 15)))) from rfl)
    by_cases herr : errB ⟨k, n, vk, vn, vs, tab, col⟩ = true
    · have hcs : k = 4 ∨ (¬ k = 4 ∧ k = 3 ∧ 10 ≤ n ∧ n ≤ 15) := by
        rw [HEr.out] at herr
        simp at herr
        rcases herr with h | h
        · exact .inl h
        · exact .inr ⟨by omega, h⟩
      have HR := Lib.hid herr
      clear herr
      rcases hcs with rfl | ⟨h4, rfl, h10, h15⟩
      all_goals
        go_enter Tryz.func8, Tryz.ntmps8
        go_wp2_with fail
        go_ret
        exact ⟨ret_bool (by rw [HD.out, HR.out]; rfl), HBa.out⟩
    · have hcs : (¬ k = 4 ∧ ¬ k = 3) ∨ (¬ k = 4 ∧ k = 3 ∧ ¬ 10 ≤ n) ∨ (¬ k = 4 ∧ k = 3 ∧ 10 ≤ n ∧ ¬ n ≤ 15) := by
        rw [HEr.out] at herr
        simp at herr
        omega
      have HR := Lib.hid (show errB ⟨k, n, vk, vn, vs, tab, col⟩ = false by simpa using herr)
      clear herr
      rcases hcs with ⟨h4, h3⟩ | ⟨h4, rfl, h10⟩ | ⟨h4, rfl, h10, h15⟩
      case' inl => have h3b : (k == 3) = false := by simpa using h3
      case' inl => have h4b : (k == 4) = false := by simpa using h4
      all_goals
        go_enter Tryz.func8, Tryz.ntmps8
        go_wp2_with fail
        go_loopw [3] (fun i W => ∃ j : Nat, j ≤ l.length ∧ i = .int .i64 j ∧ Hid (Below W0.heap.size W0 W) ∧ Hid (errsXs (l.take j) = false)) (fun i _ => l.length - (intOf i).toNat)
        case atStart => exact ⟨0, Nat.zero_le _, rfl, Lib.hid (by rw [HW0.out]; exact Below.refl _ _), Lib.hid (by simp [errsXs])⟩
        case round =>
          obtain ⟨j, hj, rfl, HW, HS⟩ := hrel
          obtain ⟨⟨_, _, _, _, _, _, _, p7⟩, _⟩ := cell8 ((HW.out.block w.heap.size (by omega)).trans (by rw [← HW0.out]; exact HX0.out))
          have hbw := bt HBa.out (by rw [HW0.out]; exact HW.out)
          by_cases hkl : j < l.length
          · obtain ⟨h', l', g, o, A', cap', hx, rfl, hg, ⟨a0, a1, a2, a3, a4, a5, a6, a7⟩, hle, hx2⟩ := kid_at HXl.out hbw hkl
            have hcm := cntL_mem hx
            have HT := Lib.hid (errsXs_take hx)
            have HC := Lib.hid (HI.out h' l' (by omega) wr A' cap' hx2)
            have HYes := Lib.hid (fun e => errsXs_yes (l := l) (k := j + 1) e)
            have HBw := Lib.hid hbw
            clear hx hx2 hbw
            obtain ⟨m, hm⟩ : ∃ m, errsX (.mk h' l') = m := ⟨_, rfl⟩
            rw [hm] at HC HT
            clear hm
            cases m
            · go_wp2_with fail
              refine HC.out.mono ?_
              rintro e w3 ⟨rfl, hb⟩
              have HB3 := Lib.hid (HW.out.trans (hb.mono HW.out.size))
              clear hb
              go_wp2_with fail
              go_roundw
              case rel => first | exact ⟨j + 1, by omega, by go_num, HB3, Lib.hid (by rw [HT.out, HS.out]; rfl)⟩ | ((repeat apply Exists.intro); exact ⟨⟨j + 1, by omega, by go_num, HB3, Lib.hid (by rw [HT.out, HS.out]; rfl)⟩, rfl⟩)
              case measure => simp [intOf]; omega
            · go_wp2_with fail
              refine HC.out.mono ?_
              rintro e w3 ⟨rfl, hb⟩
              have HB3 := Lib.hid (bt HBw.out hb)
              clear hb
              go_wp2_with fail
              go_ret
              exact ⟨ret_bool (by rw [HD.out, HYes.out (by rw [HT.out, Bool.or_true])]; simp), HB3.out⟩
          · have hkk : j = l.length := by omega
            have HE := Lib.hid (show errsXs l = false by have := HS.out; rwa [hkk, List.take_length] at this)
            have HBw := Lib.hid hbw
            clear hbw hkk
            go_wp2_with fail
            go_ret
            exact ⟨ret_bool (by rw [HD.out, HR.out, HE.out]; rfl), HBw.out⟩
theorem refSafe_any (h : Hd) (l : List Ex) (w : World) (A : Option Addr) (cap : Nat) (hc : cnt (.mk h l) ≤ 1000000) (hX : XsAt w.heap.size w l A) :
    Calls Tryz.prog 8 #[XV h A l.length cap] w fun e w' => e = .returned (.bool (!errsX (.mk h l))) ∧ Below w.heap.size w w' :=
  refSafe_n _ h l hc (Nat.le_refl _) w A cap hX
end Go.Proofs.YtpokpiphnggfpaaGreatDoor
end
section
namespace Go.Proofs.YtpokpiphnggfpaaGreatDoor
section
open Go.RowKit Go.Shelf
attribute [local go_sem] Oper.semAt_some

def andX (a b : Ex) : Ex := .mk (hdO 2) [a, b]
def accX (x : Ex) (r : List Ex) (j : Nat) : Ex := (r.take j).foldl andX x
def allX : List Ex → Ex
  | [] => .mk (hdL 1 1 ⟨#[]⟩) []
  | x :: r => r.foldl andX x
theorem accX_next {x : Ex} {r : List Ex} {j : Nat} {y : Ex} (h : r[j]? = some y) : accX x r (j + 1) = andX (accX x r j) y := by
  unfold accX
  rw [List.take_add_one, h, Option.toList_some, List.foldl_append]
  rfl
theorem accX_all (x : Ex) (r : List Ex) : accX x r r.length = allX (x :: r) := by
  unfold accX
  rw [List.take_length]
  rfl
/-- An expression that is told, in whatever memory. -/
def EBack (w : World) (x : Ex) (e : Ending) (w' : World) : Prop :=
  ∃ A cap, e = .returned (XV x.hd A x.kids.length cap) ∧ x.kids.length ≤ cap ∧ XsAt w'.heap.size w' x.kids A ∧ Below w.heap.size w w'
theorem bool_yes (w : World) :
    Calls Tryz.prog 62 #[.bool true] w fun e w' => e = .returned (VV 1 1 ⟨#[]⟩) ∧ Below w.heap.size w w' := by
  go_enter Tryz.func62, Tryz.ntmps62
  go_wp2
  refine bodyPost_ret (v := VV 1 1 ⟨#[]⟩) (by simp [results, Tryz.results62, go_sem]) rfl ⟨rfl, ?_⟩
  exact ba w _
/-- Where the parts of what is put together lie: in blocks of the call's own, none of its two boxes. -/
abbrev Apt (n u2 u3 : Nat) (W : World) (k : Nat) : Prop := n ≤ k ∧ k < W.heap.size ∧ k ≠ u2 ∧ k ≠ u3
theorem Apt.next {n u2 u3 : Nat} {W W' : World} {l : List Ex} {A : Option Addr} (hb : Bel W W') (h : XsB (Apt n u2 u3 W) W l A) : XsB (Apt n u2 u3 W') W' l A :=
  XsB.go (fun k hk => hb.block k hk.2.1) (fun _ hk => ⟨hk.1, Nat.lt_of_lt_of_le hk.2.1 hb.size, hk.2.2⟩) _ _ h
def AV (n u2 u3 : Nat) (l : List Ex) (len : Nat) (v : Value) (w : World) : Prop := ∃ A cap, v = .slice A len cap ∧ len ≤ cap ∧ XsB (Apt n u2 u3 w) w l A
def AE (n u2 u3 : Nat) (h : Hd) (l : List Ex) (len : Nat) (v : Value) (w : World) : Prop := ∃ A cap, v = XV h A len cap ∧ len ≤ cap ∧ XsB (Apt n u2 u3 w) w l A
theorem AV.keeps (n u2 u3 : Nat) (l : List Ex) (len : Nat) : Keeps Bel (AV n u2 u3 l len) := fun _ _ _ hb ⟨A, cap, e, hl, hx⟩ => ⟨A, cap, e, hl, Apt.next hb hx⟩
theorem AE.keeps (n u2 u3 : Nat) (h : Hd) (l : List Ex) (len : Nat) : Keeps Bel (AE n u2 u3 h l len) := fun _ _ _ hb ⟨A, cap, e, hl, hx⟩ => ⟨A, cap, e, hl, Apt.next hb hx⟩
theorem pair_at {n u2 u3 : Nat} {w : World} {a : Ex} {h' : Hd} {l' : List Ex} {A A3 : Option Addr} {cap cap3 : Nat} (hn : n ≤ w.heap.size) (h2 : u2 < w.heap.size) (h3 : u3 < w.heap.size) (hl : a.kids.length ≤ cap) (hl3 : l'.length ≤ cap3)
    (hA : XsB (Apt n u2 u3 w) w a.kids A) (hA3 : XsB (Apt n u2 u3 w) w l' A3) :
    AV n u2 u3 [a, .mk h' l'] 2 (.slice (some ⟨w.heap.size, 0, none⟩) 2 2) (w.alloc (.cells (xcell (a.hd, A, a.kids.length, cap) ++ xcell (h', A3, l'.length, cap3)).toArray 30)) := by
  have hb := ba w (.cells (xcell (a.hd, A, a.kids.length, cap) ++ xcell (h', A3, l'.length, cap3)).toArray 30)
  have hzb := (MapKept.heap_alloc w (.cells (xcell (a.hd, A, a.kids.length, cap) ++ xcell (h', A3, l'.length, cap3)).toArray 30)).1
  refine ⟨_, _, rfl, Nat.le_refl _, ?_⟩
  refine XRs.xsB (q := [(a.hd, A, a.kids.length, cap), (h', A3, l'.length, cap3)]) ⟨hn, by rw [World.size_alloc]; omega, by omega, by omega⟩ (.cons ⟨rfl, rfl, hl, Apt.next hb hA⟩ (.cons ⟨rfl, rfl, hl3, Apt.next hb hA3⟩ .nil)) fun j u hj => ?_
  rw [Nat.zero_add]
  simp only [World.cell?, hzb, List.getElem?_toArray]
  simpa [xcells] using hj
theorem run_mkO {o : Oper} {a : Act} {w : World} {x : Operand} (ho : o.op = .build 30 #[(0, .const (.int .i64 3)), (1, .const (.int .i64 2)), (5, x)]) {A : Option Addr} {n c : Nat} (hx : a.eval x = .slice A n c) :
    (execOp a.eval o).run Tryz.prog w = .ok (.value (XV (hdO 2) A n c)) w := by
  have h : (Instr.build 30 #[(0, .int .i64 3), (1, .int .i64 2), (5, .slice A n c)]).run Tryz.prog w = .ok (XV (hdO 2) A n c) w := by
    go_simp
  have e1 : a.eval (.const (.int .i64 3)) = .int .i64 3 := rfl
  have e2 : a.eval (.const (.int .i64 2)) = .int .i64 2 := rfl
  unfold execOp
  simp only [ho, List.map_toArray, List.map_cons, List.map_nil, hx, e1, e2]
  rw [Sem.run_bind, h]
  rfl
/-- What holds from round to round. -/
def RdAll (w : World) (u2 u3 : Nat) (x : Ex) (wr : World) : Prop :=
  ∃ A4 cap4, x.kids.length ≤ cap4 ∧ wr.heap[u3]? = some (xbox x.hd A4 x.kids.length cap4) ∧ XsB (Apt u2 u2 u3 wr) wr x.kids A4 ∧ wr.heap[u2]? = some x0 ∧ Below w.heap.size w wr
theorem round_end {w We w1 : World} {u2 u3 : Nat} {x : Ex} {h' : Hd} {l' : List Ex} {z : Option Addr} {c4 len3 cap3 : Nat} {h3 : Hd} {A3 : Option Addr} (H : w.heap.size = u2 ∧ u2 < u3 ∧ u3 < We.heap.size ∧ We.heap[u2]? = some x0 ∧ Below w.heap.size w We) (hB : Below We.drew.heap.size We.drew w1)
    (hU : w1.heap[u3]? = some (xbox h3 A3 len3 cap3)) (hl : 2 ≤ c4) (hx : XsB (Apt u2 u2 u3 w1) w1 [x, .mk h' l'] z) : Hid (RdAll w u2 u3 (andX x (.mk h' l')) (put8 w1 u3 0 (hdO 2, z, 2, c4))) := by
  obtain ⟨h1, h2, h4, h5, h6⟩ := H
  have hbe : (put8 w1 u3 0 (hdO 2, z, 2, c4)).heap[u3]? = some (xbox (hdO 2) z 2 c4) := by
    rw [put8_box (o := 0) hU (hdO 2, z, 2, c4)]
    simp
  have hb2 : (put8 w1 u3 0 (hdO 2, z, 2, c4)).heap[u2]? = some x0 := (put8_other (by omega) _).trans ((hB.block u2 (show u2 < We.heap.size by omega)).trans h5)
  have hxk : XsB (Apt u2 u2 u3 (put8 w1 u3 0 (hdO 2, z, 2, c4))) (put8 w1 u3 0 (hdO 2, z, 2, c4)) [x, .mk h' l'] z :=
    XsB.go (fun k hk => put8_other (by have := hk.2.2.2; omega) _) (fun k hk => ⟨hk.1, by rw [put8_size]; exact hk.2.1, hk.2.2⟩) _ _ hx
  have hs : We.heap.size ≤ w1.heap.size := hB.size
  refine Lib.hid ⟨z, c4, hl, hbe, hxk, hb2, ?_⟩
  have h7 : Below w.heap.size w w1 := bt h6 (bt (Below.drew (Below.refl _ _)) hB)
  exact ⟨(put8_os ..).trans h7.os, (put8_tape ..).trans h7.tape, (put8_output ..).trans h7.output, by rw [put8_size]; exact h7.size, fun k hk => (put8_other (by omega) _).trans (h7.block k hk)⟩
end
section
open Go.RowKit Go.Shelf
attribute [local go_sem] Oper.semAt_some

abbrev eA : Ex := .mk (hdC ⟨#[]⟩ ⟨#[97]⟩) []
abbrev eOne : Ex := .mk (hdL 2 1 ⟨#[]⟩) []
abbrev eB : Ex := .mk (hdC ⟨#[116]⟩ ⟨#[98]⟩) []
abbrev eAdd : Ex := .mk (hdO 10) [eA, eOne]
abbrev eLt : Ex := .mk (hdO 6) [eAdd, eB]
abbrev eNull : Ex := .mk (hdO 16) [eA]
abbrev eAnd : Ex := .mk (hdO 2) [eLt, eNull]
abbrev eRows : Ex := .mk (hdA 1) []
abbrev eSum : Ex := .mk (hdA 3) [eA]
abbrev eZero : Ex := .mk ⟨0, 0, 0, 0, ⟨#[]⟩, ⟨#[]⟩, ⟨#[]⟩⟩ []
abbrev eTrue : Ex := .mk (hdL 1 1 ⟨#[]⟩) []
theorem sm_all : AllSm eAnd ∧ AllSm eRows ∧ AllSm eSum ∧ AllSm eZero ∧ AllSm eTrue := by
  simp only [AllSm, AllSmL, and_true]
  refine ⟨⟨?_, ⟨?_, ⟨?_, ?_, ?_⟩, ?_⟩, ?_, ?_⟩, ?_, ⟨?_, ?_⟩, ?_, ?_⟩ <;> exact ⟨by decide, by decide, by decide⟩
theorem ok_and : okX eAnd = true := by kernel_rfl
theorem ok_sum : okX eSum = true := by kernel_rfl
theorem cnt_and : cnt eAnd = 8 := by kernel_rfl
theorem chk_and : chkI eAnd = 0 := by kernel_rfl
theorem siz_and : sizI eAnd = 8 := by kernel_rfl
theorem dep_and : depI eAnd = 4 := by kernel_rfl
theorem safe_and : safeB eAnd = false := by kernel_rfl
abbrev txtAnd : List UInt8 := [40, 40, 40, 97, 32, 43, 32, 49, 41, 32, 60, 32, 116, 46, 98, 41, 32, 65, 78, 68, 32, 40, 97, 32, 73, 83, 32, 78, 85, 76, 76, 41, 41]
theorem sho_and : shoX eAnd = txtAnd := by kernel_rfl
theorem sho_rows : shoX eRows = [67, 79, 85, 78, 84, 40, 42, 41] := by kernel_rfl
theorem sho_true : shoX eTrue = [84, 82, 85, 69] := by kernel_rfl
theorem chk_zero : chkI eZero = 100 := by kernel_rfl
theorem len_cols : (if okX eAnd = true then kndX 2 eAnd else []).length = 3 := by kernel_rfl
theorem len_aggs : (if okX eSum = true then kndX 4 eSum else []).length = 1 := by kernel_rfl
theorem prt_and : (if okX eAnd = true then prtX eAnd else []) = [eLt, eNull] := by kernel_rfl
theorem all_prt : allX [eLt, eNull] = eAnd := by rfl
theorem same_and : sameX eAnd eAnd = true := by kernel_rfl
mutual
def nzX : Ex → Bool
  | .mk h l => h.k != 0 && nzXs l
def nzXs : List Ex → Bool
  | [] => true
  | x :: r => nzX x && nzXs r
end
theorem XsB.off {B : Nat → Prop} {w : World} {u : Nat} (hu : w.heap[u]? = some x0) : ∀ (l : List Ex) (A : Option Addr), nzXs l = true → XsB B w l A → XsB (fun k => B k ∧ k ≠ u) w l A
  | [], _, _, _ => by rw [XsB]; trivial
  | .mk h l :: r, A, hz, H => by
    rw [nzXs, nzX] at hz
    simp only [Bool.and_eq_true, bne_iff_ne] at hz
    rw [XsB] at H ⊢
    obtain ⟨g, o, e, hg, ⟨A', cap, hc, hl, h1⟩, h2⟩ := H
    refine ⟨g, o, e, ⟨hg, fun e2 => ?_⟩, ⟨A', cap, hc, hl, XsB.off hu l A' hz.1.2 h1⟩, XsB.off hu r _ hz.2 h2⟩
    subst e2
    have h0 := hc.c0
    have h7 := hc.c7
    simp only [World.cell?, hu] at h0 h7
    have ho : o = 0 := by
      rcases Nat.eq_zero_or_pos o with h | h
      · exact h
      · rw [Array.getElem?_eq_none (by simp; omega)] at h7; cases h7
    subst ho
    simp at h0
    exact hz.1.1 h0.symm
theorem put8_bel {w w1 : World} {u o : Nat} {x : XQ} (h : Below w.heap.size w w1) (hu : w.heap.size ≤ u) : Below w.heap.size w (put8 w1 u o x) :=
  ⟨(put8_os ..).trans h.os, (put8_tape ..).trans h.tape, (put8_output ..).trans h.output, by rw [put8_size]; exact h.size, fun k hk => (put8_other (by omega) _).trans (h.block k hk)⟩
end
end Go.Proofs.YtpokpiphnggfpaaGreatDoor
end
section
namespace Go.Proofs.YtpokpiphnggfpaaGreatDoor
open Go.RowKit Go.Shelf
attribute [local go_sem] Oper.semAt_some

theorem run_ixE {o : Oper} {a : Act} {w : World} {x y : Operand} (ho : o.op = .indexAddr 22 x y) {g p n c i : Nat} (hx : a.eval x = .slice (some ⟨g, p, none⟩) n c) (hy : a.eval y = .int .i64 (i : Nat)) (hi : i < n) :
    (execOp a.eval o).run Tryz.prog w = .ok (.value (.pointer (some ⟨g, p + i * 8, none⟩))) w := by
  have h : (Instr.indexAt 22 (.slice (some ⟨g, p, none⟩) n c) (.int .i64 (i : Nat))).run Tryz.prog w = .ok (.pointer (some ⟨g, p + i * 8, none⟩)) w := by go_simp
  unfold execOp
  simp only [ho, hx, hy]
  rw [Sem.run_bind, h]
  rfl
/-- What holds from round to round; the parts may lie in old blocks. -/
def RdAl (w : World) (u2 u3 : Nat) (x : Ex) (wr : World) : Prop :=
  ∃ A4 cap4, x.kids.length ≤ cap4 ∧ wr.heap[u3]? = some (xbox x.hd A4 x.kids.length cap4) ∧ XsB (Apt 0 u2 u3 wr) wr x.kids A4 ∧ wr.heap[u2]? = some x0 ∧ Below w.heap.size w wr
theorem round_end0 {w We w1 : World} {u2 u3 : Nat} {x : Ex} {h' : Hd} {l' : List Ex} {z : Option Addr} {c4 len3 cap3 : Nat} {h3 : Hd} {A3 : Option Addr} (H : w.heap.size = u2 ∧ u2 < u3 ∧ u3 < We.heap.size ∧ We.heap[u2]? = some x0 ∧ Below w.heap.size w We) (hB : Below We.drew.heap.size We.drew w1)
    (hU : w1.heap[u3]? = some (xbox h3 A3 len3 cap3)) (hl : 2 ≤ c4) (hx : XsB (Apt 0 u2 u3 w1) w1 [x, .mk h' l'] z) : Hid (RdAl w u2 u3 (andX x (.mk h' l')) (put8 w1 u3 0 (hdO 2, z, 2, c4))) := by
  obtain ⟨h1, h2, h4, h5, h6⟩ := H
  have hbe : (put8 w1 u3 0 (hdO 2, z, 2, c4)).heap[u3]? = some (xbox (hdO 2) z 2 c4) := by
    rw [put8_box (o := 0) hU (hdO 2, z, 2, c4)]
    simp
  have hb2 : (put8 w1 u3 0 (hdO 2, z, 2, c4)).heap[u2]? = some x0 := (put8_other (by omega) _).trans ((hB.block u2 (show u2 < We.heap.size by omega)).trans h5)
  have hxk : XsB (Apt 0 u2 u3 (put8 w1 u3 0 (hdO 2, z, 2, c4))) (put8 w1 u3 0 (hdO 2, z, 2, c4)) [x, .mk h' l'] z :=
    XsB.go (fun k hk => put8_other (by have := hk.2.2.2; omega) _) (fun k hk => ⟨hk.1, by rw [put8_size]; exact hk.2.1, hk.2.2⟩) _ _ hx
  refine Lib.hid ⟨z, c4, hl, hbe, hxk, hb2, ?_⟩
  have h7 : Below w.heap.size w w1 := bt h6 (bt (Below.drew (Below.refl _ _)) hB)
  exact ⟨(put8_os ..).trans h7.os, (put8_tape ..).trans h7.tape, (put8_output ..).trans h7.output, by rw [put8_size]; exact h7.size, fun k hk => (put8_other (by omega) _).trans (h7.block k hk)⟩
set_option maxRecDepth 100000 in
set_option maxHeartbeats 8000000 in
theorem refAll_any (x : Ex) (r : List Ex) (A : Option Addr) (cap : Nat) (w : World) (hX : XsAt w.heap.size w (x :: r) A) (hr : r.length ≤ 1000) :
    Calls Tryz.prog 9 #[.slice A (r.length + 1) cap] w (EBack w (allX (x :: r))) := by
  obtain ⟨g, o, A', cap', rfl, hg, hxc, hle', hx'⟩ := XsAt.one hX
  have HR := Lib.hid hX
  obtain ⟨h, l⟩ := x
  have hba := ba w x0
  obtain ⟨c0, c1, c2, c3, c4, c5, c6, c7⟩ := hxc.of (hba.block g hg)
  have hbx := ba (w.alloc x0) (xbox h A' l.length cap')
  have HX0 := Lib.hid ((hbx.block w.heap.size (by simp)).trans (MapKept.heap_alloc w x0).1)
  have HZ := Lib.hid (show ((w.alloc x0).alloc (xbox h A' l.length cap')).heap[w.heap.size + 1]? = some (xbox h A' l.length cap') by
    have := (MapKept.heap_alloc (w.alloc x0) (xbox h A' l.length cap')).1
    rwa [World.size_alloc] at this)
  have HBs := Lib.hid (bt hba hbx)
  have HE := Lib.hid (accX_all (.mk h l) r)
  have HK := Lib.hid (show XsB (Apt 0 w.heap.size (w.heap.size + 1) ((w.alloc x0).alloc (xbox h A' l.length cap'))) ((w.alloc x0).alloc (xbox h A' l.length cap')) l A' from
    XsB.go (fun k hk => (bt hba hbx).block k hk) (fun k hk => ⟨Nat.zero_le _, by simp; omega, by omega, by omega⟩) _ _ hx')
  have Hle := Lib.hid hle'
  clear hX hxc hx' hba hbx
  simp only [Ex.hd, Ex.kids] at c0 c1 c2 c3 c4 c5 c6 c7
  go_enter Tryz.func9, Tryz.ntmps9
  go_upto_region 4 with fail
  generalize (w.alloc (.cells #[.int .i64 0, .int .i64 0, .int .i64 0, .int .i64 0, .string ⟨#[]⟩, .string ⟨#[]⟩, .string ⟨#[]⟩, .slice none 0 0] 30)).alloc (.cells #[.int .i64 h.k, .int .i64 h.n, .int .i64 h.vk, .int .i64 h.vn, .string h.vs, .string h.tab, .string h.col, .slice A' l.length cap'] 30) = W1 at HX0 HZ HBs HK c0 c1 c2 c3 c4 c5 c6 c7 ⊢
  clear c0 c1 c2 c3 c4 c5 c6 c7
  obtain ⟨u3, hu3⟩ : ∃ u, w.heap.size + 1 = u := ⟨_, rfl⟩
  rw [hu3] at HZ HK ⊢
  obtain ⟨u2, hu2⟩ : ∃ u, w.heap.size = u := ⟨_, rfl⟩
  have Hu2 := Lib.hid hu2
  have Hu3 := Lib.hid (show u2 < u3 by omega)
  rw [hu2] at HX0 HK ⊢
  clear hu3 hu2
  go_wp2_with fail
  go_loopw [4] (fun i wr => ∃ j : Nat, j ≤ r.length ∧ i = .int .i64 (j + 1 : Nat) ∧ Hid (RdAl w u2 u3 (accX (.mk h l) r j) wr)) (fun i _ => r.length + 1 - (intOf i).toNat)
  case atStart => exact ⟨0, Nat.zero_le _, rfl, Lib.hid ⟨A', cap', Hle.out, HZ.out, HK.out, HX0.out, HBs.out⟩⟩
  case round =>
    obtain ⟨j, hj, rfl, HW⟩ := hrel
    clear HZ HK HX0 HBs Hle
    by_cases hjr : j < r.length
    · obtain ⟨A4, cap4, hle4, hb3, hk4, hb2, hB⟩ := HW.out
      have h32 := (Array.getElem?_eq_some_iff.1 hb3).1
      obtain ⟨h', l', g2, o2, A2, cap2, hx, e2, hg2, hxc, hle2, hx2⟩ := kid_at HR.out hB (j := j + 1) (by simpa using hjr)
      simp only [Option.some.injEq, Addr.mk.injEq] at e2
      obtain ⟨rfl, rfl, _⟩ := e2
      have HAc := Lib.hid (accX_next (x := .mk h l) (show r[j]? = some (.mk h' l') by simpa using hx))
      have HXC := Lib.hid hxc
      have HX2 := Lib.hid (show XsB (Apt 0 u2 u3 wr) wr l' A2 from by
        have hw : XsB (fun k => k < w.heap.size) w (.mk h l :: r) (some ⟨g, o, none⟩) := HR.out
        obtain ⟨g3, o3, A3, cap3, e3, hg3, hc3, hl3, hx3⟩ := XsB.at hw hx
        have hcc := hc3.of (hB.block g3 hg3)
        simp only [Option.some.injEq, Addr.mk.injEq] at e3
        obtain ⟨rfl, rfl, _⟩ := e3
        have e7 := hcc.c7.symm.trans hxc.c7
        simp only [Option.some.injEq, Value.slice.injEq] at e7
        obtain ⟨rfl, _, rfl⟩ := e7
        exact XsB.go (fun k hk => hB.block k hk) (fun k hk => ⟨Nat.zero_le _, by have := hB.size; omega, by have := Hu2.out; omega, by have := Hu2.out; have := Hu3.out; omega⟩) _ _ hx3)
      have HbU := Lib.hid hb3
      have HLe := Lib.hid hle4
      have HLe2 := Lib.hid hle2
      have HU3 := Lib.hid h32
      have HU2 := Lib.hid (show u2 < wr.heap.size by have := Hu3.out; omega)
      have HG := Lib.hid hg2
      have HK4 := Lib.hid hk4
      have HW2 := Lib.hid (show w.heap.size = u2 ∧ u2 < u3 ∧ u3 < wr.heap.size ∧ wr.heap[u2]? = some x0 ∧ Below w.heap.size w wr from ⟨Hu2.out, Hu3.out, h32, hb2, hB⟩)
      clear hb3 hk4 hb2 hB hx hx2 hle4 h32 hxc hle2 hg2 HW
      go_upto_region 7 with fail
      refine wp_region_inv (n := 7) (ds := [some 19, some 20, some 21, some 22, some 23, some 24, some 25, none]) (need := [[], [], [], [1, 2], [3], [0, 4], [5], [0, 1, 2, 3, 4, 5, 6]]) (R := Bel) (Gs := [
          (fun v _ => v = XV (accX (.mk h l) r j).hd A4 (accX (.mk h l) r j).kids.length cap4),
          (fun v _ => v = .slice (some ⟨g, o, none⟩) (r.length + 1) cap),
          (fun v _ => v = .int .i64 (j + 1 : Nat)),
          (fun v _ => v = .pointer (some ⟨g, o + (j + 1) * 8, none⟩)),
          (fun v _ => v = XV h' A2 l'.length cap2),
          (AV 0 u2 u3 [(accX (.mk h l) r j), .mk h' l'] 2),
          (AE 0 u2 u3 (hdO 2) [(accX (.mk h l) r j), .mk h' l'] 2)])
        (by kernel_rfl) (by kernel_rfl) (by decide) (by kernel_rfl) (by kernel_rfl) (by kernel_rfl) (fun x => Below.refl _ x) (fun _ _ _ h k => bt h k) ?_ ?_
      · refine Each.cons rfl (Keeps.const _) (StepOk.plain (g := (fun v _ => v = XV (accX (.mk h l) r j).hd A4 (accX (.mk h l) r j).kids.length cap4)) rfl rfl rfl (fun a w hs hR hr pre => ?_)) ?_
        · have ep : a.eval (.tmp 3) = .pointer (some ⟨u3, 0, none⟩) := hr 3 (by decide)
          exact wp_pure (run_ldE rfl ep (XC.ofBox ((hR.block u3 HU3.out).trans HbU.out))) rfl
        refine Each.cons rfl (Keeps.const _) (StepOk.plain (g := (fun v _ => v = .slice (some ⟨g, o, none⟩) (r.length + 1) cap)) rfl rfl rfl (fun a w hs hR hr pre => ?_)) ?_
        · have ep : a.eval (.tmp 0) = .slice (some ⟨g, o, none⟩) (r.length + 1) cap := hr 0 (by decide)
          exact wp_pure (run_move rfl) ep
        refine Each.cons rfl (Keeps.const _) (StepOk.plain (g := (fun v _ => v = .int .i64 (j + 1 : Nat))) rfl rfl rfl (fun a w hs hR hr pre => ?_)) ?_
        · have ep : a.eval (.tmp 4) = .int .i64 (j + 1 : Nat) := hr 4 (by decide)
          exact wp_pure (run_move rfl) ep
        refine Each.cons rfl (Keeps.const _) (StepOk.plain (g := (fun v _ => v = .pointer (some ⟨g, o + (j + 1) * 8, none⟩))) rfl rfl rfl (fun a w hs hR hr pre => ?_)) ?_
        · have e20 : a.eval (.tmp 20) = .slice (some ⟨g, o, none⟩) (r.length + 1) cap := pre 1 (by decide)
          have e21 : a.eval (.tmp 21) = .int .i64 (j + 1 : Nat) := pre 2 (by decide)
          exact wp_pure (run_ixE rfl e20 e21 (by omega)) rfl
        refine Each.cons rfl (Keeps.const _) (StepOk.plain (g := (fun v _ => v = XV h' A2 l'.length cap2)) rfl rfl rfl (fun a w hs hR hr pre => ?_)) ?_
        · have e22 : a.eval (.tmp 22) = .pointer (some ⟨g, o + (j + 1) * 8, none⟩) := pre 3 (by decide)
          exact wp_pure (run_ldE rfl e22 (HXC.out.of (show w.heap[g]? = wr.heap[g]? from hR.block g HG.out))) rfl
        refine Each.cons rfl (AV.keeps _ _ _ _ _) (StepOk.plain (g := (AV 0 u2 u3 [(accX (.mk h l) r j), .mk h' l'] 2)) rfl rfl rfl (fun a w hs hR hr pre => ?_)) ?_
        · have e19 : a.eval (.tmp 19) = XV (accX (.mk h l) r j).hd A4 (accX (.mk h l) r j).kids.length cap4 := pre 0 (by decide)
          have e23 : a.eval (.tmp 23) = XV h' A2 l'.length cap2 := pre 4 (by decide)
          have h0 : wr.heap.size ≤ w.heap.size := hR.size
          exact wp_made (run_bs2 rfl e19 e23) (pair_at (Nat.zero_le _) (by have := HU2.out; omega) (by have := HU3.out; omega) HLe.out HLe2.out (Apt.next (bt (Below.drew (Below.refl _ _)) hR) HK4.out) (Apt.next (bt (Below.drew (Below.refl _ _)) hR) HX2.out))
        refine Each.cons rfl (AE.keeps _ _ _ _ _ _) (StepOk.plain (g := (AE 0 u2 u3 (hdO 2) [(accX (.mk h l) r j), .mk h' l'] 2)) rfl rfl rfl (fun a w hs hR hr pre => ?_)) ?_
        · obtain ⟨A3, cap3, e24, hl3, hx3⟩ : AV 0 u2 u3 [(accX (.mk h l) r j), .mk h' l'] 2 (a.eval (.tmp 24)) w := pre 5 (by decide)
          refine wp_fn (vs := #[.int .i64 2, .slice A3 2 cap3]) rfl Tryz.func23 (by kernel_rfl) (by kernel_rfl) (by simp only [List.map_toArray, List.map_cons, List.map_nil, eval_const, e24]) ((refOp_any 2 A3 2 cap3 w).mono ?_)
          rintro e w2 ⟨rfl, hb⟩
          exact ⟨_, rfl, hb, A3, cap3, rfl, hl3, Apt.next hb hx3⟩
        exact Each.nil
      · intro v w1 hB hG
        obtain ⟨z, c4, e4, hl4, hx4⟩ : AE 0 u2 u3 (hdO 2) [(accX (.mk h l) r j), .mk h' l'] 2 (v 6) w1 := hG 6 (by decide)
        clear hG
        simp only [List.take_succ_cons, List.take_zero, puts, Act.put, List.setIfInBounds_toArray, List.set_cons_zero, List.set_cons_succ, Nat.reduceAdd, e4]
        have hU3 : w1.heap[u3]? = _ := (hB.block u3 HU3.out).trans HbU.out
        obtain ⟨⟨k0, k1, k2, k3, k4, k5, k6, k7⟩, _⟩ := cell8 hU3
        refine wpAny_last (by rfl) (by kernel_rfl) (by kernel_rfl) rfl rfl ?_
        refine wp_put8 (.tmp 3) (.tmp 25) rfl u3 0 (hdO 2, z, 2, c4) (by rfl) (by rfl) (fun i hi => ?_) (fun o => by simp only [World.frozen?, hU3]; rfl) ?_
        · rcases (show i = 0 ∨ i = 1 ∨ i = 2 ∨ i = 3 ∨ i = 4 ∨ i = 5 ∨ i = 6 ∨ i = 7 by omega) with rfl | rfl | rfl | rfl | rfl | rfl | rfl | rfl
          · exact ⟨_, k0⟩
          · exact ⟨_, k1⟩
          · exact ⟨_, k2⟩
          · exact ⟨_, k3⟩
          · exact ⟨_, k4⟩
          · exact ⟨_, k5⟩
          · exact ⟨_, k6⟩
          · exact ⟨_, k7⟩
        have HEN := Lib.hid (round_end0 (x := (accX (.mk h l) r j)) HW2.out hB hU3 hl4 hx4)
        rw [← HAc.out] at HEN
        obtain ⟨F, hF⟩ : ∃ F, put8 w1 u3 0 (hdO 2, z, 2, c4) = F := ⟨_, rfl⟩
        rw [hF] at HEN ⊢
        clear hF hU3 k0 k1 k2 k3 k4 k5 k6 k7 hB hx4
        simp only [Act.put]
        go_wp2_with fail
        go_roundw
        case rel => exact ⟨j + 1, by omega, by go_num, HEN⟩
        case measure => simp [intOf]; omega
    · have hjj : j = r.length := by omega
      have hW := HW.out
      rw [hjj, HE.out] at hW
      obtain ⟨A4, cap4, hle4, hb3, hk4, hb2, hB⟩ := hW
      clear hjj HW
      obtain ⟨⟨d0, d1, d2, d3, d4, d5, d6, d7⟩, _⟩ := cell8 hb3
      obtain ⟨⟨e0, e1, e2, e3, e4, e5, e6, e7⟩, g0, g1, g2, g3, g4, g5, g6, g7⟩ := cell8 hb2
      obtain ⟨Y, hY⟩ : ∃ Y, allX (.mk h l :: r) = Y := ⟨_, rfl⟩
      rw [hY] at hle4 hb3 hk4 d0 d1 d2 d3 d4 d5 d6 d7 ⊢
      have HZ2 := Lib.hid (set8_box hb2 (.int .i64 Y.hd.k) (.int .i64 Y.hd.n) (.int .i64 Y.hd.vk) (.int .i64 Y.hd.vn) (.string Y.hd.vs) (.string Y.hd.tab) (.string Y.hd.col) (.slice A4 Y.kids.length cap4))
      have HB2 := Lib.hid hB
      have HK2 := Lib.hid hk4
      have HY := Lib.hid hY
      clear hb3 hb2 hB hk4 HE hY
      go_wp2_with fail
      obtain ⟨⟨q0, q1, q2, q3, q4, q5, q6, q7⟩, _⟩ := cell8 HZ2.out
      refine bodyPost_ret (v := XV Y.hd A4 Y.kids.length cap4) (by simp [results, Tryz.results9, go_sem, q0, q1, q2, q3, q4, q5, q6, q7]) rfl ?_
      rw [HY.out]
      refine ⟨A4, cap4, rfl, hle4, ?_, ?_⟩
      · exact XsB.go (fun k hk => set8_other (by have := hk.2.2.1; omega) _ _ _ _ _ _ _ _) (fun k hk => by rw [set8_size]; exact hk.2.1) _ _ HK2.out
      · exact set8_below HB2.out (by have := Hu2.out; omega) _ _ _ _ _ _ _ _
end Go.Proofs.YtpokpiphnggfpaaGreatDoor
end
section
namespace Go.Proofs.YtpokpiphnggfpaaGreatDoor
open Go.RowKit Go.Shelf

structure Yown (n₀ base : Nat) (W1 W : World) (v : Value) (l : List Ex) : Prop where
  row : ∃ q, XRs (fun k => k < n₀) W l q ∧ W.ownsRow base 30 8 v l.length (xcells q)
  bel : Below base W1 W
  le : base ≤ W.heap.size
  nil : l = [] → v = .slice none 0 0
theorem Yown.slice {n₀ base : Nat} {W1 W : World} {v : Value} {l : List Ex} (h : Yown n₀ base W1 W v l) : ∃ A cap, v = .slice A l.length cap := by
  obtain ⟨q, _, ho⟩ := h.row
  rcases ho.2 with ⟨rfl, h0⟩ | ⟨g, cap, cur, hv, _⟩
  · rw [h0]; exact ⟨none, 0, rfl⟩
  · exact ⟨_, cap, hv⟩
theorem Yown.start (n₀ : Nat) (W : World) : Yown n₀ W.heap.size W W (.slice none 0 0) [] :=
  ⟨⟨[], .nil, World.ownsRow_nil _ _ _ _⟩, Below.refl _ _, Nat.le_refl _, fun _ => rfl⟩
theorem Yown.below {n₀ base : Nat} {W1 W W' : World} {v : Value} {l : List Ex} (h : Yown n₀ base W1 W v l) (hb : Below W.heap.size W W') (hn : n₀ ≤ base) : Yown n₀ base W1 W' v l := by
  obtain ⟨q, hq, ho⟩ := h.row
  have hle := h.le
  refine ⟨⟨q, hq.go (fun k hk => hb.block k (by omega)) (fun _ hk => hk), ho.1, ?_⟩, h.bel.trans (hb.mono h.le), Nat.le_trans h.le hb.size, h.nil⟩
  rcases ho.2 with hn | ⟨g, cap, cur, hv, hb1, hg, hc, hm, hsz, ht⟩
  · exact .inl hn
  · exact .inr ⟨g, cap, cur, hv, hb1, (hb.block g (by
      rcases Nat.lt_or_ge g W.heap.size with h | h
      · exact h
      · rw [Array.getElem?_eq_none h] at hg; cases hg)).trans hg, hc, hm, hsz, ht⟩
theorem Yown.weak {n₀ base base' : Nat} {W0 W1 W : World} {v : Value} {l : List Ex} (h : Yown n₀ base W1 W v l) (hb : Below base' W0 W1) (hle : base' ≤ base) : Yown n₀ base' W0 W v l := by
  obtain ⟨q, hq, ho⟩ := h.row
  have hs := h.le
  refine ⟨⟨q, hq, ho.1, ?_⟩, hb.trans (h.bel.mono hle), by omega, h.nil⟩
  rcases ho.2 with hn | ⟨g, cap, cur, hv, hb1, hg, hc, hm, hsz, ht⟩
  · exact .inl hn
  · exact .inr ⟨g, cap, cur, hv, by omega, hg, hc, hm, hsz, ht⟩
/-- What such a list reads as. -/
theorem Yown.rows {n₀ base : Nat} {W1 W : World} {v : Value} {l : List Ex} (h : Yown n₀ base W1 W v l) :
    (l = [] ∧ v = .slice none 0 0) ∨ ∃ g cap q, v = .slice (some ⟨g, 0, none⟩) l.length cap ∧ l.length ≤ cap ∧ g < W.heap.size ∧ base ≤ g ∧ XRs (fun k => k < n₀) W l q ∧ (∀ j u, (xcells q)[j]? = some u → W.cell? ((⟨g, 0, none⟩ : Addr).add j) = some u) := by
  obtain ⟨q, hq, ho⟩ := h.row
  rcases ho.2 with ⟨rfl, h0⟩ | ⟨g, cap, cur, hv, hb1, hg, hc, hm, hsz, ht⟩
  · exact .inl ⟨List.eq_nil_of_length_eq_zero h0, rfl⟩
  · refine .inr ⟨g, cap, q, hv, by omega, ?_, hb1, hq, World.ownsRow.cells ho (by rw [hv]; rfl)⟩
    rcases Nat.lt_or_ge g W.heap.size with h | h
    · exact h
    · rw [Array.getElem?_eq_none h] at hg; cases hg
theorem addp (g j : Nat) : (⟨g, 0, none⟩ : Addr).add j = ⟨g, j, none⟩ := by simp only [Addr.add]; split <;> simp_all
theorem Yown.xsAt {n₀ base : Nat} {W1 W : World} {v : Value} {l : List Ex} (h : Yown n₀ base W1 W v l) (hn : n₀ ≤ base) : ∃ A cap, v = .slice A l.length cap ∧ l.length ≤ cap ∧ XsAt W.heap.size W l A := by
  have hle := h.le
  rcases h.rows with ⟨rfl, rfl⟩ | ⟨g, cap, q, hv, hl, hg, _, hq, hc⟩
  · exact ⟨none, 0, rfl, Nat.le_refl _, by rw [XsAt, XsB]; trivial⟩
  · refine ⟨_, cap, hv, hl, XRs.xsB (B := fun k => k < W.heap.size) hg (hq.go (B' := fun k => k < W.heap.size) (fun _ _ => rfl) (fun k hk => by omega)) fun j u hj => ?_⟩
    have := hc j u hj
    rwa [addp, ← Nat.zero_add j] at this
/-- A list appended. -/
theorem Yown.grow {n₀ base : Nat} {W1 W : World} {v : Value} {l : List Ex} (h : Yown n₀ base W1 W v l) (hn : n₀ ≤ base) {q : List XQ} (hq : XRs (fun k => k < n₀) W l q ∧ W.ownsRow base 30 8 v l.length (xcells q)) {l' : List Ex} {q' : List XQ} (hq' : XRs (fun k => k < n₀) W l' q') (hne : l' ≠ [])
    {v' : Value} {w' : World} (ho : w'.ownsRow base 30 8 v' (l.length + l'.length) (xcells q ++ xcells q')) (hg : W.grownBy w' v.ownBlock) : Yown n₀ base W1 w' v' (l ++ l') := by
  have hle := h.le
  have hs := hg.size
  have hb : ∀ k, k < n₀ → w'.heap[k]? = W.heap[k]? := fun k hk => hg.block k (by omega) (fun e => by have := (hq.2.lt k e.symm).1; omega)
  refine ⟨⟨q ++ q', (hq.1.go hb (fun _ h => h)).app (hq'.go hb (fun _ h => h)), ?_⟩, h.bel.trans ((Below.refl base W).grown hg hle (fun k hk => (hq.2.lt k hk).1)), by omega, fun e => by simp at e; exact absurd e.2 hne⟩
  rw [xcells_app, List.length_append]
  exact ho
mutual
theorem knd_len (c : Int) : ∀ x : Ex, (kndX c x).length ≤ cnt x
  | .mk h l => by
    have := knds_len c l
    rw [kndX, cnt, List.length_append]
    split <;> simp <;> omega
theorem knds_len (c : Int) : ∀ l : List Ex, (kndXs c l).length ≤ cntL l
  | [] => by simp [kndXs]
  | x :: r => by
    have := knd_len c x
    have := knds_len c r
    rw [kndXs, cntL, List.length_append]; omega
end
set_option maxRecDepth 100000 in
set_option maxHeartbeats 8000000 in
theorem refKinds_n (c : Int) (n₀ : Nat) : ∀ (N : Nat) (h : Hd) (l : List Ex), cnt (.mk h l) ≤ N → N ≤ 1000000 → ∀ (w : World) (A : Option Addr) (cap : Nat), XsAt n₀ w l A → l.length ≤ cap → n₀ ≤ w.heap.size →
    Calls Tryz.prog 25 #[XV h A l.length cap, .int .i64 c] w fun e w' => ∃ v, e = .returned v ∧ Yown n₀ w.heap.size w w' v (kndX c (.mk h l)) := by
  intro N
  induction N with
  | zero => intro h l hc; have := cnt_pos (.mk h l); omega
  | succ N ih =>
    intro h l hc hN w A cap hX hcap hn
    obtain ⟨i0, hi, hz0, hz1, hz2⟩ := infoE_parts info_expr
    rw [cnt_mk] at hc
    have hlen := cntL_len l
    have hba := ba w (xbox h A l.length cap)
    have HX0 := Lib.hid (MapKept.heap_alloc w (xbox h A l.length cap)).1
    obtain ⟨⟨x0, x1, x2, x3, x4, x5, x6, x7⟩, _⟩ := cell8 HX0.out
    have HBa := Lib.hid hba
    have HXl := Lib.hid (show XsAt n₀ (w.alloc (xbox h A l.length cap)) l A from hX.kept (hba.mono hn))
    have HI := Lib.hid (show ∀ (h' : Hd) (l' : List Ex), cnt (.mk h' l') ≤ N → ∀ (w1 : World) (A' : Option Addr) (cap' : Nat), XsAt n₀ w1 l' A' → l'.length ≤ cap' → n₀ ≤ w1.heap.size →
        Calls Tryz.prog 25 #[XV h' A' l'.length cap', .int .i64 c] w1 fun e w' => ∃ v, e = .returned v ∧ Yown n₀ w1.heap.size w1 w' v (kndX c (.mk h' l')) from fun h' l' hc' w1 A' cap' h1 h2 h3 => ih h' l' hc' (by omega) w1 A' cap' h1 h2 h3)
    have hsz0 : (w.alloc (xbox h A l.length cap)).heap.size = w.heap.size + 1 := by simp
    clear hX ih hba
    by_cases hk : h.k = c
    case' pos =>
      have hkb : (h.k == c) = true := by simpa using hk
      have HD := Lib.hid (show kndX c (.mk h l) = [.mk h l] ++ kndXs c l by rw [kndX, if_pos hk])
      obtain ⟨O, hO⟩ : ∃ O, O = [Ex.mk h l] := ⟨_, rfl⟩
      rw [← hO] at HD
      have HOl := Lib.hid (show O.length ≤ 1 by rw [hO]; simp)
      have hY0 : Yown n₀ (w.alloc (xbox h A l.length cap)).heap.size (w.alloc (xbox h A l.length cap)) ((w.alloc (xbox h A l.length cap)).alloc (.cells (xcell (h, A, l.length, cap)).toArray 30)) (.slice none 0 0) [] := (Yown.start n₀ _).below (ba _ _) (by rw [hsz0]; omega)
      have hqe : XRs (fun k => k < n₀) ((w.alloc (xbox h A l.length cap)).alloc (.cells (xcell (h, A, l.length, cap)).toArray 30)) [.mk h l] [(h, A, l.length, cap)] :=
        .cons ⟨rfl, rfl, hcap, XsB.go (fun k hk => (ba (w.alloc (xbox h A l.length cap)) _).block k (by omega)) (fun _ hk => hk) _ _ HXl.out⟩ .nil
      have HG0 := Lib.hid (show ∀ v' w', w'.ownsRow (w.heap.size + 1) 30 8 v' 1 (xcell (h, A, l.length, cap)) → ((w.alloc (xbox h A l.length cap)).alloc (.cells (xcell (h, A, l.length, cap)).toArray 30)).grownBy w' (Value.ownBlock (.slice none 0 0)) → Yown n₀ (w.alloc (xbox h A l.length cap)).heap.size (w.alloc (xbox h A l.length cap)) w' v' O from fun v' w' ho hg => by
        rw [hO]
        exact hY0.grow (by rw [hsz0]; omega) (q := []) ⟨.nil, World.ownsRow_nil _ _ _ _⟩ hqe (by simp) (by rw [hsz0]; simpa [xcells] using ho) hg)
      clear hk hY0 hqe hO
      go_enter Tryz.func25, Tryz.ntmps25
      go_wp2_with (at_builtin; refine wpList_append_own _ rfl _ _ 22 rfl (w.alloc (xbox h A l.length cap)).heap.size 30 i0 _ 8 104 Tryz.underlying22 hi hz0 hz1 hz2 rfl (by decide) _ _ _ rfl (World.ownsRow_nil _ _ _ _) ⟨w.heap.size + 1, 0, none⟩ 1 1 (xcell (h, A, l.length, cap)) rfl rfl (by rw [← hsz0]; exact xnews _ _ _) (xcell_one _) ?c3 ?c4 ?c5 ?_)
      case c3 => unfold maxLen; omega
      case c4 => omega
      case c5 => simp
      intro v' w' hown hgrow _
      have HYO := Lib.hid (HG0.out _ _ hown hgrow)
      clear hown hgrow HG0
    case' neg =>
      have hkb : (h.k == c) = false := by simpa using hk
      have HD := Lib.hid (show kndX c (.mk h l) = [] ++ kndXs c l by rw [kndX, if_neg hk])
      obtain ⟨O, hO⟩ : ∃ O, O = ([] : List Ex) := ⟨_, rfl⟩
      rw [← hO] at HD
      have HOl := Lib.hid (show O.length ≤ 1 by rw [hO]; simp)
      have HYO := Lib.hid (show Yown n₀ (w.alloc (xbox h A l.length cap)).heap.size (w.alloc (xbox h A l.length cap)) (w.alloc (xbox h A l.length cap)) (.slice none 0 0) O by rw [hO]; exact Yown.start n₀ _)
      clear hk hO
      go_enter Tryz.func25, Tryz.ntmps25
      go_upto_region 4 with fail
    all_goals
      clear hkb x0 x1 x2 x3 x4 x5 x6 x7
      have hll : l.length ≤ 1000000 := by omega
      have hcl : cntL l ≤ 1000000 := by omega
      obtain ⟨W0, hW0⟩ : ∃ W0, w.alloc (xbox h A l.length cap) = W0 := ⟨_, rfl⟩
      rw [hW0] at HX0 HBa HXl hsz0 HYO
      try rw [hW0]
      have HS0 := Lib.hid hsz0
      clear hW0 hsz0
      go_wp2_with fail
      go_loopw [6, 5] (fun i v W => ∃ k : Nat, k ≤ l.length ∧ i = .int .i64 k ∧ Hid (Yown n₀ W0.heap.size W0 W v (O ++ kndXs c (l.take k)))) (fun i _ _ => l.length - (intOf i).toNat)
      case atStart => exact ⟨0, Nat.zero_le _, rfl, Lib.hid (by rw [List.take_zero, kndXs, List.append_nil]; exact HYO.out)⟩
      case round =>
        clear HYO
        obtain ⟨k, hk, rfl, HW⟩ := hrel
        have hz1 := (HW.out.bel.block w.heap.size (by have := HS0.out; omega)).trans HX0.out
        obtain ⟨⟨p0, p1, p2, p3, p4, p5, p6, p7⟩, _⟩ := cell8 hz1
        have hbw : Below w.heap.size w wr := HBa.out.trans (HW.out.bel.mono HBa.out.size)
        have hb0 : Below n₀ W0 wr := HW.out.bel.mono (by have := HS0.out; omega)
        clear hz1
        obtain ⟨n, hn1⟩ : ∃ n, (O ++ kndXs c (l.take k)).length = n := ⟨_, rfl⟩
        have hn6 : n ≤ 1000001 := by
          have h1 := HOl.out
          have h2 := knds_len c (l.take k)
          have h3 := cntL_take_le l k
          rw [← hn1, List.length_append]; omega
        obtain ⟨AS, capS, hv⟩ := HW.out.slice
        rw [hn1] at hv
        subst hv
        by_cases hkn : k < l.length
        · obtain ⟨x, hx⟩ : ∃ x, l[k]? = some x := ⟨_, List.getElem?_eq_getElem hkn⟩
          obtain ⟨h', l'⟩ := x
          have HT := Lib.hid (show O ++ kndXs c (l.take (k + 1)) = (O ++ kndXs c (l.take k)) ++ kndX c (.mk h' l') by rw [kndXs_take c hx, List.append_assoc])
          have hc' := cntL_mem hx
          obtain ⟨g, off, A', cap', rfl, hg, hX, hle', hl'⟩ := HXl.out.at hx
          obtain ⟨c0, c1, c2, c3, c4, c5, c6, c7⟩ := hX.of (hb0.block g hg)
          have HC := Lib.hid (HI.out h' l' (by omega) wr A' cap' (XsAt.kept hb0 hl') hle' (by have := hbw.size; omega))
          have hkl := knd_len c (.mk h' l')
          clear hX hl' hx hg hbw hb0
          go_wp2_with fail
          refine HC.out.mono ?_
          rintro e w3 ⟨v3, rfl, hY3⟩
          have hb3 := hY3.bel
          have H3 := HW.out.below hb3 (by have := HS0.out; omega)
          obtain ⟨q, hq⟩ := H3.row
          have hq2 := hq.2
          rw [hn1] at hq2
          rcases hY3.rows with ⟨hnil, rfl⟩ | ⟨g3, cap3, q3, rfl, hle3, hg3, _, hq3, hc3⟩
          · have HG := Lib.hid (show Yown n₀ W0.heap.size W0 w3 (.slice AS n capS) (O ++ kndXs c (l.take (k + 1))) by rw [HT.out, hnil, List.append_nil]; exact H3)
            clear H3 hq hY3 hb3 hnil c0 c1 c2 c3 c4 c5 c6 c7
            go_wp2_with (at_builtin; refine wpList_append_own_none rfl _ _ 22 rfl W0.heap.size 30 i0 8 Tryz.underlying22 hi _ _ _ rfl hq2 rfl ?_)
            go_wp2_with fail
            go_roundw
            case rel => first | exact ⟨k + 1, by omega, by go_num, HG⟩ | ((repeat apply Exists.intro); exact ⟨⟨k + 1, by omega, by go_num, HG⟩, rfl⟩)
            case measure => simp [intOf]; omega
          · obtain ⟨m, hm⟩ : ∃ m, (kndX c (.mk h' l')).length = m := ⟨_, rfl⟩
            have hql := hq3.len
            rw [hm] at hle3 hkl hql ⊢
            have hm0 : kndX c (.mk h' l') ≠ [] ∨ m = 0 := by
              rcases Nat.eq_zero_or_pos m with h | h
              · exact .inr h
              · exact .inl (fun e => by rw [e] at hm; simp at hm; omega)
            have HH3 := Lib.hid (show m ≠ 0 → ∀ v' w', w'.ownsRow W0.heap.size 30 8 v' (n + m) (xcells q ++ xcells q3) → w3.grownBy w' (Value.ownBlock (.slice AS n capS)) → Yown n₀ W0.heap.size W0 w' v' (O ++ kndXs c (l.take (k + 1))) from fun hm1 v' w' ho hg => by
              rw [HT.out]
              exact H3.grow (by have := HS0.out; omega) hq hq3 (hm0.resolve_right hm1) (by rw [hn1, hm]; exact ho) hg)
            have HM := Lib.hid (show m ≠ 0 by
              intro e0
              have hnil : kndX c (.mk h' l') = [] := List.eq_nil_of_length_eq_zero (by rw [hm]; exact e0)
              have h1 := hY3.nil hnil
              simp at h1)
            have hnews := Lib.hid hc3
            have HLE := Lib.hid H3.le
            have hn7 : cnt (.mk h' l') ≤ 1000000 := by omega
            clear H3 hq hY3 hb3 hq3 hm0 hc3 c0 c1 c2 c3 c4 c5 c6 c7
            go_wp2_with (at_builtin; refine wpList_append_own _ rfl _ _ 22 rfl W0.heap.size 30 i0 _ 8 104 Tryz.underlying22 hi hz0 hz1 hz2 rfl (by decide) _ _ _ rfl hq2 ⟨g3, 0, none⟩ m cap3 (xcells q3) rfl (by rw [xcells_len, hql]) hnews.out (xcells_one _) ?c3 ?c4 ?c5 ?_)
            case c3 => unfold maxLen; omega
            case c4 => omega
            case c5 => exact HLE.out
            intro v' w4 hown' hg4 _
            have HG := Lib.hid (HH3.out HM.out _ _ hown' hg4)
            clear hown' hg4
            go_wp2_with fail
            go_roundw
            case rel => first | exact ⟨k + 1, by omega, by go_num, HG⟩ | ((repeat apply Exists.intro); exact ⟨⟨k + 1, by omega, by go_num, HG⟩, rfl⟩)
            case measure => simp [intOf]; omega
        · obtain rfl : k = l.length := by omega
          have HY := Lib.hid (show Yown n₀ w.heap.size w wr (.slice AS n capS) (kndX c (.mk h l)) by
            rw [HD.out]
            have := HW.out
            rw [List.take_length] at this
            exact this.weak HBa.out (by have := HS0.out; omega))
          clear hn1 hbw hb0
          go_wp2_with fail
          go_ret
          exact ⟨_, rfl, HY.out⟩
end Go.Proofs.YtpokpiphnggfpaaGreatDoor
end
