/-
  The document's Check of rows.
The document's Depth and Safe.
All.
  What must come of every program: expr's lives.
The document's Name.
  The document's one: may an expression be, but for its parts?
  The document's one, at 1.
  The document's one, at 2.
  The document's one, at 3.
  The document's one, at 4.
The document's one, walk, Check, Size.
Texts of expressions are those of one expression alone, but for columns' places.
-/
import Derived.Test.YtpokpiphnggfpaaDoorZ12
import Derived.Deep.QuietTactic
import Derived.BigQuiet
import Derived.Deep.RegionHeld3
import Derived.Deep.RegionWith
section
namespace Go.Proofs.YtpokpiphnggfpaaDoor
open Go.RowKit Go.Shelf

def badA (v : Va) : Bool := !v.ok
def okR (r : List Va) : Bool := decide (r.length ≤ 32) && !(r.any badA)
theorem refCheckA (b : Bool) (v : Va) (w : World) (hs : v.s.size ≤ 9223372036854775807) (h : badA v = b) :
    Calls Tryd.prog 9 #[VV v.k v.n v.s] w fun e w' => e = .returned (.bool (!b)) ∧ Below w.heap.size w w' := by
  have e1 : okV v.k v.n v.s = !b := by rw [← h]; simp [badA, Va.ok]
  rw [← e1]; exact refCheck_any _ _ _ _ hs

set_option maxHeartbeats 1000000 in
theorem refRowCheck_any (A : Option Addr) (c : Nat) (r : List Va) (w : World) (h : RowAt w A r) (hf : Fine r) (hl : r.length ≤ 9223372036854775807) :
    Calls Tryd.prog 5 #[.slice A r.length c] w fun e w' => e = .returned (.bool (okR r)) ∧ Below w.heap.size w w' := by
  go_enter Tryd.func5, Tryd.ntmps5
  go_wp2_with fail
  go_loopw [3] (fun i wr => ∃ j : Nat, j ≤ r.length ∧ i = .int .i64 j ∧ Below w.heap.size w wr ∧ Hid ((r.take j).any badA = false)) (fun i _ => r.length - (intOf i).toNat)
  case atStart => exact ⟨0, Nat.zero_le _, rfl, Below.refl _ _, Lib.hid (by simp)⟩
  case round =>
    obtain ⟨j, hj, rfl, hB, HN⟩ := hrel
    have hr := h.kept hB
    have HR := Lib.hid h
    clear h
    by_cases hlt : j < r.length
    · obtain ⟨b, off, rfl, hb, c0, c1, c2⟩ := hr.at hlt
      have hz := hf.at hlt
      have HS := Lib.hid (any_take_succ badA r j hlt)
      have HM := Lib.hid (show badA r[j] = true → r.any badA = true from fun hh => List.any_eq_true.2 ⟨_, List.getElem_mem hlt, hh⟩)
      generalize r[j] = v at c0 c1 c2 hz HS HM
      clear hr
      cases hbd : badA v
      · have HD := Lib.hid hbd
        have HE := Lib.hid (show (r.take (j + 1)).any badA = false by rw [HS.out, HN.out, hbd]; rfl)
        clear hbd
        go_wp2_with fail
        refine (refCheckA false v _ hz HD.out).mono ?_
        rintro e w1 ⟨rfl, hb1⟩
        go_wp2_with fail
        go_roundw
        case rel => exact ⟨j + 1, by omega, by go_num, bt hB hb1, HE⟩
        case measure => simp [intOf]; omega
      · have HD := Lib.hid hbd
        have HE := Lib.hid (show okR r = false by simp only [okR, HM.out hbd]; simp)
        clear hbd
        go_wp2_with fail
        refine (refCheckA true v _ hz HD.out).mono ?_
        rintro e w1 ⟨rfl, hb1⟩
        go_wp2_with fail
        go_ret
        exact ⟨ret_bool HE.out.symm, bt hB hb1⟩
    · have HE := Lib.hid (show okR r = decide (r.length ≤ 32) by
        have : r.any badA = false := by rw [← HN.out, List.take_of_length_le (by omega)]
        simp only [okR, this]; simp)
      go_wp2_with fail
      go_ret
      exact ⟨ret_bool (by rw [HE.out]; simp; omega), hB⟩

theorem okR_all {r : List Va} (h : okR r = true) : OkR r ∧ r.length ≤ 32 := by
  simp only [okR, Bool.and_eq_true, decide_eq_true_eq, Bool.not_eq_true'] at h
  refine ⟨fun v hv => ?_, h.1⟩
  have := (List.any_eq_false.1 h.2) v hv
  simpa [badA] using this
end Go.Proofs.YtpokpiphnggfpaaDoor
end
section
namespace Go.Proofs.YtpokpiphnggfpaaDoor
open Go.RowKit Go.Shelf

/-- A part of an expression, in memory, found again. -/
theorem kid_at {W : World} {w : World} {l : List Ex} {A : Option Addr} {j : Nat} (hX : XsAt w.heap.size w l A) (hb : Below w.heap.size w W) (hj : j < l.length) :
    ∃ h' l' g o A' cap', l[j]? = some (.mk h' l') ∧ A = some ⟨g, o, none⟩ ∧ g < W.heap.size ∧ XC W g (o + j * 8) h' A' l'.length cap' ∧ l'.length ≤ cap' ∧ XsAt W.heap.size W l' A' := by
  obtain ⟨x, hx⟩ : ∃ x, l[j]? = some x := ⟨_, List.getElem?_eq_getElem hj⟩
  obtain ⟨h', l'⟩ := x
  obtain ⟨g, o, A', cap', e, hg, hc, hl, hx2⟩ := hX.at hx
  exact ⟨h', l', g, o, A', cap', hx, e, Nat.lt_of_lt_of_le hg hb.size, hc.of (hb.block g hg), hl, XsAt.next hx2 hb⟩
end Go.Proofs.YtpokpiphnggfpaaDoor
end
section
namespace Go.Proofs.YtpokpiphnggfpaaDoor
section
open Go.RowKit Go.Shelf
attribute [local go_sem] Oper.semAt_some

def andX (a b : Ex) : Ex := .mk (hdO 2) [a, b]
def accX (x : Ex) (r : List Ex) (j : Nat) : Ex := (r.take j).foldl andX x
def allX : List Ex → Ex
  | [] => .mk (hdL 1 1 ⟨#[]⟩) []
  | x :: r => r.foldl andX x
theorem accX_next {x : Ex} {r : List Ex} {j : Nat} {y : Ex} (h : r[j]? = some y) : accX x r (j + 1) = andX (accX x r j) y := by
  unfold accX
  rw [List.take_add_one, h, Option.toList_some, List.foldl_append]
  rfl
theorem accX_all (x : Ex) (r : List Ex) : accX x r r.length = allX (x :: r) := by
  unfold accX
  rw [List.take_length]
  rfl
/-- An expression that is told, in whatever memory. -/
def EBack (w : World) (x : Ex) (e : Ending) (w' : World) : Prop :=
  ∃ A cap, e = .returned (XV x.hd A x.kids.length cap) ∧ x.kids.length ≤ cap ∧ XsAt w'.heap.size w' x.kids A ∧ Below w.heap.size w w'
theorem bool_yes (w : World) :
    Calls Tryd.prog 55 #[.bool true] w fun e w' => e = .returned (VV 1 1 ⟨#[]⟩) ∧ Below w.heap.size w w' := by
  go_enter Tryd.func55, Tryd.ntmps55
  go_wp2
  refine bodyPost_ret (v := VV 1 1 ⟨#[]⟩) (by simp [results, Tryd.results55, go_sem]) rfl ⟨rfl, ?_⟩
  exact ba w _
/-- Where the parts of what is put together lie: in blocks of the call's own, none of its two boxes. -/
abbrev Apt (n u2 u3 : Nat) (W : World) (k : Nat) : Prop := n ≤ k ∧ k < W.heap.size ∧ k ≠ u2 ∧ k ≠ u3
theorem Apt.next {n u2 u3 : Nat} {W W' : World} {l : List Ex} {A : Option Addr} (hb : Bel W W') (h : XsB (Apt n u2 u3 W) W l A) : XsB (Apt n u2 u3 W') W' l A :=
  XsB.go (fun k hk => hb.block k hk.2.1) (fun _ hk => ⟨hk.1, Nat.lt_of_lt_of_le hk.2.1 hb.size, hk.2.2⟩) _ _ h
def AV (n u2 u3 : Nat) (l : List Ex) (len : Nat) (v : Value) (w : World) : Prop := ∃ A cap, v = .slice A len cap ∧ len ≤ cap ∧ XsB (Apt n u2 u3 w) w l A
def AE (n u2 u3 : Nat) (h : Hd) (l : List Ex) (len : Nat) (v : Value) (w : World) : Prop := ∃ A cap, v = XV h A len cap ∧ len ≤ cap ∧ XsB (Apt n u2 u3 w) w l A
theorem AV.keeps (n u2 u3 : Nat) (l : List Ex) (len : Nat) : Keeps Bel (AV n u2 u3 l len) := fun _ _ _ hb ⟨A, cap, e, hl, hx⟩ => ⟨A, cap, e, hl, Apt.next hb hx⟩
theorem AE.keeps (n u2 u3 : Nat) (h : Hd) (l : List Ex) (len : Nat) : Keeps Bel (AE n u2 u3 h l len) := fun _ _ _ hb ⟨A, cap, e, hl, hx⟩ => ⟨A, cap, e, hl, Apt.next hb hx⟩
theorem pair_at {n u2 u3 : Nat} {w : World} {a : Ex} {h' : Hd} {l' : List Ex} {A A3 : Option Addr} {cap cap3 : Nat} (hn : n ≤ w.heap.size) (h2 : u2 < w.heap.size) (h3 : u3 < w.heap.size) (hl : a.kids.length ≤ cap) (hl3 : l'.length ≤ cap3)
    (hA : XsB (Apt n u2 u3 w) w a.kids A) (hA3 : XsB (Apt n u2 u3 w) w l' A3) :
    AV n u2 u3 [a, .mk h' l'] 2 (.slice (some ⟨w.heap.size, 0, none⟩) 2 2) (w.alloc (.cells (xcell (a.hd, A, a.kids.length, cap) ++ xcell (h', A3, l'.length, cap3)).toArray 26)) := by
  have hb := ba w (.cells (xcell (a.hd, A, a.kids.length, cap) ++ xcell (h', A3, l'.length, cap3)).toArray 26)
  have hzb := (MapKept.heap_alloc w (.cells (xcell (a.hd, A, a.kids.length, cap) ++ xcell (h', A3, l'.length, cap3)).toArray 26)).1
  refine ⟨_, _, rfl, Nat.le_refl _, ?_⟩
  refine XRs.xsB (q := [(a.hd, A, a.kids.length, cap), (h', A3, l'.length, cap3)]) ⟨hn, by rw [World.size_alloc]; omega, by omega, by omega⟩ (.cons ⟨rfl, rfl, hl, Apt.next hb hA⟩ (.cons ⟨rfl, rfl, hl3, Apt.next hb hA3⟩ .nil)) fun j u hj => ?_
  rw [Nat.zero_add]
  simp only [World.cell?, hzb, List.getElem?_toArray]
  simpa [xcells] using hj
theorem run_mkO {o : Oper} {a : Act} {w : World} {x : Operand} (ho : o.op = .build 26 #[(0, .const (.int .i64 3)), (1, .const (.int .i64 2)), (5, x)]) {A : Option Addr} {n c : Nat} (hx : a.eval x = .slice A n c) :
    (execOp a.eval o).run Tryd.prog w = .ok (.value (XV (hdO 2) A n c)) w := by
  have h : (Instr.build 26 #[(0, .int .i64 3), (1, .int .i64 2), (5, .slice A n c)]).run Tryd.prog w = .ok (XV (hdO 2) A n c) w := by
    go_simp
  have e1 : a.eval (.const (.int .i64 3)) = .int .i64 3 := rfl
  have e2 : a.eval (.const (.int .i64 2)) = .int .i64 2 := rfl
  unfold execOp
  simp only [ho, List.map_toArray, List.map_cons, List.map_nil, hx, e1, e2]
  rw [Sem.run_bind, h]
  rfl
/-- What holds from round to round. -/
def RdAll (w : World) (u2 u3 : Nat) (x : Ex) (wr : World) : Prop :=
  ∃ A4 cap4, x.kids.length ≤ cap4 ∧ wr.heap[u3]? = some (xbox x.hd A4 x.kids.length cap4) ∧ XsB (Apt u2 u2 u3 wr) wr x.kids A4 ∧ wr.heap[u2]? = some x0 ∧ Below w.heap.size w wr
theorem round_end {w We w1 : World} {u2 u3 : Nat} {x : Ex} {h' : Hd} {l' : List Ex} {z : Option Addr} {c4 len3 cap3 : Nat} {h3 : Hd} {A3 : Option Addr} (H : w.heap.size = u2 ∧ u2 < u3 ∧ u3 < We.heap.size ∧ We.heap[u2]? = some x0 ∧ Below w.heap.size w We) (hB : Below We.drew.heap.size We.drew w1)
    (hU : w1.heap[u3]? = some (xbox h3 A3 len3 cap3)) (hl : 2 ≤ c4) (hx : XsB (Apt u2 u2 u3 w1) w1 [x, .mk h' l'] z) : Hid (RdAll w u2 u3 (andX x (.mk h' l')) (put8 w1 u3 0 (hdO 2, z, 2, c4))) := by
  obtain ⟨h1, h2, h4, h5, h6⟩ := H
  have hbe : (put8 w1 u3 0 (hdO 2, z, 2, c4)).heap[u3]? = some (xbox (hdO 2) z 2 c4) := by
    rw [put8_box (o := 0) hU (hdO 2, z, 2, c4)]
    simp
  have hb2 : (put8 w1 u3 0 (hdO 2, z, 2, c4)).heap[u2]? = some x0 := (put8_other (by omega) _).trans ((hB.block u2 (show u2 < We.heap.size by omega)).trans h5)
  have hxk : XsB (Apt u2 u2 u3 (put8 w1 u3 0 (hdO 2, z, 2, c4))) (put8 w1 u3 0 (hdO 2, z, 2, c4)) [x, .mk h' l'] z :=
    XsB.go (fun k hk => put8_other (by have := hk.2.2.2; omega) _) (fun k hk => ⟨hk.1, by rw [put8_size]; exact hk.2.1, hk.2.2⟩) _ _ hx
  have hs : We.heap.size ≤ w1.heap.size := hB.size
  refine Lib.hid ⟨z, c4, hl, hbe, hxk, hb2, ?_⟩
  have h7 : Below w.heap.size w w1 := bt h6 (bt (Below.drew (Below.refl _ _)) hB)
  exact ⟨(put8_os ..).trans h7.os, (put8_tape ..).trans h7.tape, (put8_output ..).trans h7.output, by rw [put8_size]; exact h7.size, fun k hk => (put8_other (by omega) _).trans (h7.block k hk)⟩
end
section
open Go.RowKit Go.Shelf
attribute [local go_sem] Oper.semAt_some

abbrev eA : Ex := .mk (hdC ⟨#[]⟩ ⟨#[97]⟩) []
abbrev eOne : Ex := .mk (hdL 2 1 ⟨#[]⟩) []
abbrev eB : Ex := .mk (hdC ⟨#[116]⟩ ⟨#[98]⟩) []
abbrev eAdd : Ex := .mk (hdO 10) [eA, eOne]
abbrev eLt : Ex := .mk (hdO 6) [eAdd, eB]
abbrev eNull : Ex := .mk (hdO 16) [eA]
abbrev eAnd : Ex := .mk (hdO 2) [eLt, eNull]
abbrev eRows : Ex := .mk (hdA 1) []
abbrev eSum : Ex := .mk (hdA 3) [eA]
abbrev eZero : Ex := .mk ⟨0, 0, 0, 0, ⟨#[]⟩, ⟨#[]⟩, ⟨#[]⟩⟩ []
abbrev eTrue : Ex := .mk (hdL 1 1 ⟨#[]⟩) []
theorem sm_all : AllSm eAnd ∧ AllSm eRows ∧ AllSm eSum ∧ AllSm eZero ∧ AllSm eTrue := by
  simp only [AllSm, AllSmL, and_true]
  refine ⟨⟨?_, ⟨?_, ⟨?_, ?_, ?_⟩, ?_⟩, ?_, ?_⟩, ?_, ⟨?_, ?_⟩, ?_, ?_⟩ <;> exact ⟨by decide, by decide, by decide⟩
theorem ok_and : okX eAnd = true := by kernel_rfl
theorem ok_sum : okX eSum = true := by kernel_rfl
theorem cnt_and : cnt eAnd = 8 := by kernel_rfl
theorem chk_and : chkI eAnd = 0 := by kernel_rfl
theorem siz_and : sizI eAnd = 8 := by kernel_rfl
theorem dep_and : depI eAnd = 4 := by kernel_rfl
theorem safe_and : safeB eAnd = false := by kernel_rfl
abbrev txtAnd : List UInt8 := [40, 40, 40, 97, 32, 43, 32, 49, 41, 32, 60, 32, 116, 46, 98, 41, 32, 65, 78, 68, 32, 40, 97, 32, 73, 83, 32, 78, 85, 76, 76, 41, 41]
theorem sho_and : shoX eAnd = txtAnd := by kernel_rfl
theorem sho_rows : shoX eRows = [67, 79, 85, 78, 84, 40, 42, 41] := by kernel_rfl
theorem sho_true : shoX eTrue = [84, 82, 85, 69] := by kernel_rfl
theorem chk_zero : chkI eZero = 100 := by kernel_rfl
theorem len_cols : (if okX eAnd = true then kndX 2 eAnd else []).length = 3 := by kernel_rfl
theorem len_aggs : (if okX eSum = true then kndX 4 eSum else []).length = 1 := by kernel_rfl
theorem prt_and : (if okX eAnd = true then prtX eAnd else []) = [eLt, eNull] := by kernel_rfl
theorem all_prt : allX [eLt, eNull] = eAnd := by rfl
theorem same_and : sameX eAnd eAnd = true := by kernel_rfl
mutual
def nzX : Ex → Bool
  | .mk h l => h.k != 0 && nzXs l
def nzXs : List Ex → Bool
  | [] => true
  | x :: r => nzX x && nzXs r
end
theorem XsB.off {B : Nat → Prop} {w : World} {u : Nat} (hu : w.heap[u]? = some x0) : ∀ (l : List Ex) (A : Option Addr), nzXs l = true → XsB B w l A → XsB (fun k => B k ∧ k ≠ u) w l A
  | [], _, _, _ => by rw [XsB]; trivial
  | .mk h l :: r, A, hz, H => by
    rw [nzXs, nzX] at hz
    simp only [Bool.and_eq_true, bne_iff_ne] at hz
    rw [XsB] at H ⊢
    obtain ⟨g, o, e, hg, ⟨A', cap, hc, hl, h1⟩, h2⟩ := H
    refine ⟨g, o, e, ⟨hg, fun e2 => ?_⟩, ⟨A', cap, hc, hl, XsB.off hu l A' hz.1.2 h1⟩, XsB.off hu r _ hz.2 h2⟩
    subst e2
    have h0 := hc.c0
    have h7 := hc.c7
    simp only [World.cell?, hu] at h0 h7
    have ho : o = 0 := by
      rcases Nat.eq_zero_or_pos o with h | h
      · exact h
      · rw [Array.getElem?_eq_none (by simp; omega)] at h7; cases h7
    subst ho
    simp at h0
    exact hz.1.1 h0.symm
theorem put8_bel {w w1 : World} {u o : Nat} {x : XQ} (h : Below w.heap.size w w1) (hu : w.heap.size ≤ u) : Below w.heap.size w (put8 w1 u o x) :=
  ⟨(put8_os ..).trans h.os, (put8_tape ..).trans h.tape, (put8_output ..).trans h.output, by rw [put8_size]; exact h.size, fun k hk => (put8_other (by omega) _).trans (h.block k hk)⟩
end
end Go.Proofs.YtpokpiphnggfpaaDoor
end
section
namespace Go.Proofs.YtpokpiphnggfpaaDoor
section
open Go.RowKit Go.Shelf

/-- A name, byte by byte. -/
def nameL (l : Lx.B) : Bool := decide (1 ≤ l.length) && decide (l.length ≤ 24) && !((l.head?.map Lx.digit).getD false) && !Lx.key l && l.all Lx.wordy
theorem take_all (l : Lx.B) : (l.takeWhile Lx.wordy).length = l.length ↔ l.all Lx.wordy = true := by
  induction l with
  | nil => simp
  | cons c l ih =>
    cases hc : Lx.wordy c with
    | true => simp [hc, ih]
    | false => simp [hc]
theorem take_eq {l : Lx.B} (h : l.all Lx.wordy = true) : l.takeWhile Lx.wordy = l := by
  have := Lx.takeWhile_take Lx.wordy l
  rw [(take_all l).2 h, List.take_length] at this
  exact this.symm
theorem isName_eq (s : ByteArray) : isName s = nameL (bs s) := by
  have hl : (bs s).length = s.size := by simp
  unfold isName
  cases hb : bs s with
  | nil => simp [Lx.cut, nameL]
  | cons c r =>
    rw [hb] at hl
    rw [Lx.cut]
    by_cases h1 : Lx.letter c = true
    · have hd : Lx.digit c = false := by
        cases h : Lx.digit c with
        | false => rfl
        | true => rw [Lx.digit_letter h] at h1; cases h1
      rw [if_pos h1, Lx.cutWord]
      cases ha : (c :: r).all Lx.wordy with
      | true =>
        rw [take_eq ha]
        unfold nameL
        rw [ha]
        by_cases h24 : 24 < (c :: r).length
        · rw [if_pos h24]
          have : decide ((c :: r).length ≤ 24) = false := decide_eq_false (by omega)
          rw [this, Bool.and_false]; rfl
        · rw [if_neg h24]
          have h25 : decide ((c :: r).length ≤ 24) = true := decide_eq_true (by omega)
          have h26 : decide (1 ≤ (c :: r).length) = true := by simp
          rw [h25, h26]
          cases hk : Lx.key (c :: r) with
          | true => simp
          | false => simp [hd, ← hl]
      | false =>
        have hne : ¬ ((c :: r).takeWhile Lx.wordy).length = s.size := fun e => by
          have := (take_all (c :: r)).1 (by rw [e, hl])
          rw [ha] at this; cases this
        unfold nameL
        rw [ha, Bool.and_false]
        split
        · rename_i t z e
          split at e
          · cases e
          · simp only [Option.some.injEq, Prod.mk.injEq] at e
            rw [← e.2]
            simp only [hne, decide_false, Bool.and_false]
        · rfl
    · rw [if_neg h1]
      by_cases h2 : Lx.digit c = true
      · rw [if_pos h2, Lx.cutNum]
        have : nameL (c :: r) = false := by simp [nameL, h2]
        rw [this]
        split
        · rename_i t z e
          split at e
          · cases e
          · split at e
            · cases e
            · simp only [Option.some.injEq, Prod.mk.injEq] at e
              rw [← e.1]; rfl
        · rfl
      · rw [if_neg h2]
        have hw : Lx.wordy c = false := by simp [Lx.wordy, h1, h2]
        have : nameL (c :: r) = false := by simp [nameL, hw]
        rw [this]
        split
        · rename_i t z e
          split at e
          · rw [Lx.cutText] at e
            simp only [Option.map_eq_some_iff] at e
            obtain ⟨_, _, e⟩ := e
            simp only [Prod.mk.injEq] at e
            rw [← e.1]; rfl
          · rw [Lx.cutSign] at e
            simp only [Option.map_eq_some_iff] at e
            obtain ⟨_, _, e⟩ := e
            simp only [Prod.mk.injEq] at e
            rw [← e.1]; rfl
        · rfl
/-- The words, as the document's Keys lays them. -/
def keyCells : Array Value := (Lx.keys.map fun b => Value.string ⟨b.toArray⟩).toArray
theorem keyCells_at (w : World) {j : Nat} {b : Lx.B} (h : Lx.keys[j]? = some b) : (w.alloc (.cells keyCells 9)).cell? ⟨w.heap.size, j, none⟩ = some (.string ⟨b.toArray⟩) := by
  have hn := (MapKept.heap_alloc w (.cells keyCells 9)).1
  unfold World.cell?
  rw [hn]
  simp [keyCells, h]
theorem all_take {l : Lx.B} {k : Nat} (h : ∀ j c, j < k → l[j]? = some c → Lx.wordy c = true) (hk : l.length ≤ k) : l.all Lx.wordy = true := by
  rw [List.all_eq_true]
  intro c hc
  obtain ⟨j, hj⟩ := List.getElem?_of_mem hc
  exact h j c (by have := (List.getElem?_eq_some_iff.1 hj).1; omega) hj
end
section
open Go.RowKit Go.Shelf

def oneB (h : Hd) (len : Nat) (ag : Bool) : Bool := !(h.k == 4 && ag) && fitsB h len
theorem two8 {w w1 : World} {a0 a1 a2 a3 a4 a5 a6 a7 b0 b1 b2 : Value} {T T' : TypeId} (hb : Below ((w.alloc (.cells #[a0, a1, a2, a3, a4, a5, a6, a7] T)).alloc (.cells #[b0, b1, b2] T')).heap.size ((w.alloc (.cells #[a0, a1, a2, a3, a4, a5, a6, a7] T)).alloc (.cells #[b0, b1, b2] T')) w1) :
    (w1.cell? ⟨w.heap.size, 0, none⟩ = some a0 ∧ w1.cell? ⟨w.heap.size, 1, none⟩ = some a1 ∧ w1.cell? ⟨w.heap.size, 2, none⟩ = some a2 ∧ w1.cell? ⟨w.heap.size, 3, none⟩ = some a3 ∧
    w1.cell? ⟨w.heap.size, 4, none⟩ = some a4 ∧ w1.cell? ⟨w.heap.size, 5, none⟩ = some a5 ∧ w1.cell? ⟨w.heap.size, 6, none⟩ = some a6 ∧ w1.cell? ⟨w.heap.size, 7, none⟩ = some a7) := by
  have h1 := ((hb.block w.heap.size (by rw [World.size_alloc, World.size_alloc]; omega)).trans ((ba (w.alloc (.cells #[a0, a1, a2, a3, a4, a5, a6, a7] T)) (.cells #[b0, b1, b2] T')).block w.heap.size (by rw [World.size_alloc]; omega))).trans (MapKept.heap_alloc w (.cells #[a0, a1, a2, a3, a4, a5, a6, a7] T)).1
  exact (cell8 h1).1
end
section
open Go.RowKit Go.Shelf

end
section
open Go.RowKit Go.Shelf

end
section
open Go.RowKit Go.Shelf

end
section
open Go.RowKit Go.Shelf

end
end Go.Proofs.YtpokpiphnggfpaaDoor
end
section
namespace Go.Proofs.YtpokpiphnggfpaaDoor
open Go.RowKit Go.Shelf

/-- What walk tells. -/
def walkV (x : Ex) (d : Nat) (ag : Bool) : Value := if goodB x d ag = true ∧ cnt x ≤ 512 then .tuple #[.int .i64 (cnt x), .bool true] else .tuple #[.int .i64 0, .bool false]
theorem goodB_one (h : Hd) (l : List Ex) (d : Nat) (ag : Bool) : goodB (.mk h l) d ag = (decide (d ≤ 32) && oneB h l.length ag && goodBs l (d + 1) (ag || h.k == 4)) := by
  rw [goodB_mk, oneB]
  cases decide (d ≤ 32) <;> cases (h.k == 4 && ag) <;> cases fitsB h l.length <;> rfl
theorem goodBs_at {l : List Ex} {j : Nat} {x : Ex} {d : Nat} {ag : Bool} (h : l[j]? = some x) (hg : goodB x d ag = false) : goodBs l d ag = false := by
  refine goodBs_no (k := j + 1) ?_
  rw [goodBs_take h, hg, Bool.and_false]
end Go.Proofs.YtpokpiphnggfpaaDoor
end
section
namespace Go.Proofs.YtpokpiphnggfpaaDoor
open Go.RowKit Go.Shelf

/-- What may follow an expression's text. -/
def Fol (r : Lx.B) : Prop := ∀ c, r.head? = some c → c = 32 ∨ c = 41
theorem fol_nil : Fol [] := by intro c h; simp at h
theorem fol_par (r : Lx.B) : Fol (41 :: r) := by intro c h; simp at h; exact .inr h.symm
theorem fol_blank (r : Lx.B) : Fol (32 :: r) := by intro c h; simp at h; exact .inl h.symm
theorem head_eq {w w' r r' : Lx.B} {t t' : Lx.Tok} (h : Lx.TokOf w t) (h' : Lx.TokOf w' t') (hf : Lx.Foll w r.head?) (hf' : Lx.Foll w' r'.head?) (e : w ++ r = w' ++ r') : t = t' ∧ w = w' ∧ r = r' := by
  have e1 := Lx.cut_of h hf
  have e2 := Lx.cut_of h' hf'
  rw [e, e2] at e1
  simp only [Option.some.injEq, Prod.mk.injEq] at e1
  obtain ⟨e0, hl⟩ := e1
  have := List.append_inj e hl.symm
  exact ⟨e0.symm, this.1, this.2⟩
theorem foll_sep {w : Lx.B} {o : Option UInt8} (h : ∀ c, o = some c → c = 32 ∨ c = 41 ∨ c = 40 ∨ c = 46) : Lx.Foll w o := by
  intro x hx
  rcases h x hx with rfl | rfl | rfl | rfl <;> exact ⟨fun _ => by decide, fun _ => by decide, fun _ => by decide, fun _ => by decide⟩
theorem foll_paren (o : Option UInt8) : Lx.Foll [40] o := by
  intro x _
  refine ⟨?_, ?_, ?_, ?_⟩
  · rintro ⟨c, r, hc, hw⟩
    simp only [List.cons.injEq] at hc
    obtain ⟨rfl, _⟩ := hc
    exact absurd hw (by decide)
  · rintro ⟨r, hr⟩; simp at hr
  · intro h; simp at h
  · intro h; simp at h

/-! Digits. -/
theorem valq_snoc (l : Lx.B) (c : UInt8) : Lx.val (l ++ [c]) = 10 * Lx.val l + (c.toNat - 48) := by simp [Lx.val]
theorem digit_at {d : Nat} (h : d < 10) : (UInt8.ofNat (48 + d)).toNat = 48 + d := by
  have : ∀ d : Fin 10, (UInt8.ofNat (48 + d.1)).toNat = 48 + d.1 := by decide
  exact this ⟨d, h⟩
theorem dec_plain : ∀ u : Nat, Lx.val (Lib.decDigits u) = u ∧ (∀ x ∈ Lib.decDigits u, Lx.digit x = true) ∧ Lib.decDigits u ≠ [] := by
  intro u
  induction u using Nat.strongRecOn with
  | _ u ih =>
    by_cases h : u < 10
    · rw [Lib.decDigits, dif_pos h]
      have e := digit_at h
      refine ⟨by simp only [Lx.val, List.foldl_cons, List.foldl_nil, e]; omega, fun x hx => ?_, by simp⟩
      obtain rfl : x = UInt8.ofNat (48 + u) := by simpa using hx
      simp only [Lx.digit, decide_eq_true_eq, e]; omega
    · rw [Lib.decDigits, dif_neg h]
      obtain ⟨h1, h2, _⟩ := ih (u / 10) (by omega)
      have e := digit_at (show u % 10 < 10 by omega)
      refine ⟨by rw [valq_snoc, h1, e]; omega, fun x hx => ?_, by simp⟩
      rcases List.mem_append.1 hx with hx | hx
      · exact h2 x hx
      · obtain rfl : x = UInt8.ofNat (48 + u % 10) := by simpa using hx
        simp only [Lx.digit, decide_eq_true_eq, e]; omega
theorem dec_tok {u : Nat} (h : u ≤ 9007199254740991) : Lx.TokOf (Lib.decDigits u) ⟨3, Lib.decDigits u, u⟩ := by
  obtain ⟨h1, h2, h3⟩ := dec_plain u
  cases hd : Lib.decDigits u with
  | nil => exact absurd hd h3
  | cons c r =>
    have := Lx.TokOf.num (w := Lib.decDigits u) (c := c) (r := r) hd h2 (by omega)
    rw [h1, hd] at this
    exact this
theorem itoa_dec {n : Int} (h : 0 ≤ n) : Lib.itoa n = Lib.decDigits n.toNat := by
  unfold Lib.itoa
  rw [if_neg (by omega)]

/-! Literals. -/
def litT (k n : Int) (s : ByteArray) : Lx.Tok :=
  if k = 1 then (if n = 1 then ⟨2, [84, 82, 85, 69], 0⟩ else ⟨2, [70, 65, 76, 83, 69], 0⟩)
  else if k = 2 then ⟨3, Lib.decDigits n.toNat, n.toNat⟩ else if k = 3 then ⟨4, bs s, 0⟩ else ⟨2, [78, 85, 76, 76], 0⟩
theorem key_tok {w : Lx.B} (h : Lx.key w = true) (hl : ∃ c r, w = c :: r ∧ Lx.letter c = true) (ha : w.all Lx.wordy = true) (hn : w.length ≤ 24) : Lx.TokOf w ⟨2, w, 0⟩ := by
  obtain ⟨c, r, hw, hc⟩ := hl
  have := Lx.TokOf.word hw hc (fun x hx => List.all_eq_true.1 ha x hx) hn
  rwa [if_pos h] at this
theorem lit_tok {k n : Int} {s : ByteArray} (h : litB k n s = true) : Lx.TokOf (showL k n s) (litT k n s) := by
  have hok : okV k n s = true := by
    cases ho : okV k n s with
    | true => rfl
    | false => rw [litB, ho] at h; cases h
  unfold showL litT
  rw [if_pos hok]
  by_cases h1 : k = 1
  · rw [if_pos h1, if_pos h1]
    split
    · exact key_tok (by decide +kernel) ⟨84, [82, 85, 69], rfl, by decide⟩ (by decide) (by decide)
    · exact key_tok (by decide +kernel) ⟨70, [65, 76, 83, 69], rfl, by decide⟩ (by decide) (by decide)
  · rw [if_neg h1, if_neg h1]
    by_cases h2 : k = 2
    · subst h2
      rw [if_pos rfl, if_pos rfl]
      have hb : n ≤ 9007199254740991 := by simp [okV] at hok; exact hok.1.2
      have h0 : 0 ≤ n := by rw [litB, hok] at h; simpa using h
      rw [itoa_dec h0]
      exact dec_tok (by omega)
    · rw [if_neg h2, if_neg h2]
      by_cases h3 : k = 3
      · subst h3
        rw [if_pos rfl, if_pos rfl]
        have h64 : s.size ≤ 64 := by simp [okV] at hok; exact hok.2
        exact Lx.TokOf.text (s := bs s) (by simpa using h64)
      · rw [if_neg h3, if_neg h3]
        exact key_tok (by decide +kernel) ⟨78, [85, 76, 76], rfl, by decide⟩ (by decide) (by decide)
theorem ba_eq {a b : ByteArray} (h : bs a = bs b) : a = b := by
  apply ByteArray.ext
  exact Array.toList_inj.1 h
theorem ba_nil {a : ByteArray} (h : a.size = 0) : a = ⟨#[]⟩ := by
  apply ba_eq
  apply List.eq_nil_of_length_eq_zero
  simpa using h
theorem lit_inj {k n k' n' : Int} {s s' : ByteArray} (h : litB k n s = true) (h' : litB k' n' s' = true) (e : litT k n s = litT k' n' s') : k = k' ∧ n = n' ∧ s = s' := by
  have ok : ∀ {k n : Int} {s : ByteArray}, litB k n s = true → (k = 0 ∧ n = 0 ∧ s = ⟨#[]⟩) ∨ (k = 1 ∧ (n = 0 ∨ n = 1) ∧ s = ⟨#[]⟩) ∨ (k = 2 ∧ 0 ≤ n ∧ s = ⟨#[]⟩) ∨ (k = 3 ∧ n = 0) := by
    intro k n s h
    have hok : okV k n s = true := by
      cases ho : okV k n s with
      | true => rfl
      | false => rw [litB, ho] at h; cases h
    have hz : s.toList = [] → s = ⟨#[]⟩ := fun h => ba_eq (by rw [ByteArray.toList_eq] at h; simpa using h)
    by_cases h0 : k = 0
    · subst h0; simp [okV] at hok; exact .inl ⟨rfl, hok.1, hz hok.2⟩
    by_cases h1 : k = 1
    · subst h1; simp [okV] at hok; exact .inr (.inl ⟨rfl, hok.1, hz hok.2⟩)
    by_cases h2 : k = 2
    · subst h2; rw [litB, hok] at h; simp [okV] at hok; exact .inr (.inr (.inl ⟨rfl, by simpa using h, hz hok.2⟩))
    by_cases h3 : k = 3
    · subst h3; simp [okV] at hok; exact .inr (.inr (.inr ⟨rfl, hok.1⟩))
    · simp [okV, h0, h1, h2, h3] at hok
  have hd : ∀ {n n' : Int}, 0 ≤ n → 0 ≤ n' → n.toNat = n'.toNat → n = n' := by intro n n' h1 h2 h3; omega
  rcases ok h with ⟨rfl, rfl, rfl⟩ | ⟨rfl, hn, rfl⟩ | ⟨rfl, hn, rfl⟩ | ⟨rfl, rfl⟩ <;> rcases ok h' with ⟨rfl, rfl, rfl⟩ | ⟨rfl, hn', rfl⟩ | ⟨rfl, hn', rfl⟩ | ⟨rfl, rfl⟩
  all_goals try exact ⟨rfl, rfl, rfl⟩
  all_goals simp only [litT] at e
  all_goals try (rcases hn with rfl | rfl <;> simp at e <;> done)
  all_goals try (rcases hn' with rfl | rfl <;> simp at e <;> done)
  all_goals try (simp at e; done)
  · rcases hn with rfl | rfl <;> rcases hn' with rfl | rfl <;> simp at e <;> exact ⟨rfl, rfl, rfl⟩
  · simp at e; exact ⟨rfl, hd hn hn' e.2, rfl⟩
  · simp at e; exact ⟨rfl, rfl, ba_eq (by simpa using e)⟩

/-! Columns. -/
theorem name_tok {s : ByteArray} (h : isName s = true) : Lx.TokOf (bs s) ⟨1, bs s, 0⟩ := by
  unfold isName at h
  cases hc : Lx.cut (bs s) with
  | none => rw [hc] at h; cases h
  | some tz =>
    obtain ⟨t, z⟩ := tz
    rw [hc] at h
    simp only [Bool.and_eq_true, decide_eq_true_eq] at h
    have hne : bs s ≠ [] := by
      intro e
      rw [e, Lx.cut] at hc
      simp only [Option.some.injEq, Prod.mk.injEq] at hc
      have := h.1
      rw [← hc.1] at this
      cases this
    obtain ⟨h1, h2, _⟩ := Lx.cut_inv hne hc
    have hz : (bs s).take z = bs s := List.take_of_length_le (by rw [h.2]; simp)
    rw [hz] at h2
    have h1 := h.1
    clear hz hc hne h
    generalize bs s = L at h2
    cases h2 with
    | word hw hl ha hn =>
      by_cases hk : Lx.key L = true
      · rw [if_pos hk] at h1; cases h1
      · have e := Lx.TokOf.word hw hl ha hn
        rw [if_neg hk] at e
        exact e
    | num hw ha hn => cases h1
    | text hs => cases h1
    | sign hs => cases h1
/-- What is left of a column's text behind its first word. -/
theorem col_form {t c : ByteArray} (h : colB t c = true) : (t = ⟨#[]⟩ ∧ colX t c = bs c ++ [] ∧ Lx.TokOf (bs c) ⟨1, bs c, 0⟩) ∨ (colX t c = bs t ++ 46 :: bs c ∧ Lx.TokOf (bs t) ⟨1, bs t, 0⟩ ∧ Lx.TokOf (bs c) ⟨1, bs c, 0⟩) := by
  rw [colB, Bool.and_eq_true] at h
  have hc := name_tok h.1
  unfold colX
  cases ht : t.toList.isEmpty with
  | true =>
    refine .inl ⟨ba_eq ?_, by simp, hc⟩
    rw [ByteArray.toList_eq] at ht
    simpa using ht
  | false =>
    rw [ht, Bool.false_or] at h
    exact .inr ⟨by simp, name_tok h.2, hc⟩
theorem vless {h : Hd} (hv : valuelessB h = true) : h.vk = 0 ∧ h.vn = 0 ∧ h.vs = ⟨#[]⟩ := by
  simp only [valuelessB, eqV, Bool.and_eq_true, beq_iff_eq] at hv
  refine ⟨hv.1.1, hv.1.2, ba_eq ?_⟩
  have := hv.2
  rw [ByteArray.toList_eq, ByteArray.toList_eq] at this
  exact this
theorem nless {h : Hd} (hv : namelessB h = true) : h.tab = ⟨#[]⟩ ∧ h.col = ⟨#[]⟩ := by
  simp only [namelessB, Bool.and_eq_true] at hv
  rw [ByteArray.toList_eq, ByteArray.toList_eq] at hv
  exact ⟨ba_eq (by simpa using hv.1), ba_eq (by simpa using hv.2)⟩

/-! Its first token. -/
def aggW (n : Int) : Lx.B := if n = 3 then [83, 85, 77] else if n = 4 then [77, 73, 78] else if n = 5 then [77, 65, 88] else [67, 79, 85, 78, 84]
theorem aggW_tok (n : Int) : Lx.TokOf (aggW n) ⟨2, aggW n, 0⟩ := by
  unfold aggW
  repeat' split
  · exact key_tok (by decide +kernel) ⟨83, [85, 77], rfl, by decide⟩ (by decide) (by decide)
  · exact key_tok (by decide +kernel) ⟨77, [73, 78], rfl, by decide⟩ (by decide) (by decide)
  · exact key_tok (by decide +kernel) ⟨77, [65, 88], rfl, by decide⟩ (by decide) (by decide)
  · exact key_tok (by decide +kernel) ⟨67, [79, 85, 78, 84], rfl, by decide⟩ (by decide) (by decide)
theorem aggX_form (n : Int) (f : List UInt8) (h : 1 ≤ n ∧ n ≤ 5) : aggX n f = aggW n ++ 40 :: (if n = 1 then [42, 41] else f ++ [41]) := by
  rcases (show n = 1 ∨ n = 2 ∨ n = 3 ∨ n = 4 ∨ n = 5 by omega) with rfl | rfl | rfl | rfl | rfl <;> simp [aggX, aggW]
/-- Which kind a first token tells. -/
def clsT (t : Lx.Tok) : Int := if t.k = 1 then 2 else if t.k = 5 then 3 else if t.k = 2 ∧ (t.s = [83, 85, 77] ∨ t.s = [77, 73, 78] ∨ t.s = [77, 65, 88] ∨ t.s = [67, 79, 85, 78, 84]) then 4 else 1
structure FstT (x : Ex) (w : Lx.B) (t : Lx.Tok) (s : Lx.B) : Prop where
  tok : Lx.TokOf w t
  eq : shwX x = w ++ s
  foll : ∀ r, Fol r → Lx.Foll w (s ++ r).head?
  cls : clsT t = x.hd.k
  notn : ¬ (t.k = 2 ∧ t.s = [78, 79, 84]) ∧ ¬ (t.k = 5 ∧ t.s ≠ [40])
theorem clsT_lit {k n : Int} {s : ByteArray} : clsT (litT k n s) = 1 := by
  unfold litT
  repeat' split
  all_goals simp [clsT]
theorem fst_of : ∀ (h : Hd) (l : List Ex), fitsB h l.length = true → ∃ w t s, FstT (.mk h l) w t s := by
  intro h l hf
  unfold fitsB at hf
  by_cases h1 : h.k = 1
  · rw [if_pos h1] at hf
    simp only [Bool.and_eq_true] at hf
    refine ⟨_, _, [], lit_tok hf.1.1.1, by rw [shwX, if_pos h1, List.append_nil], fun r hr => foll_sep fun c hc => ?_, by rw [clsT_lit]; exact h1.symm, ?_⟩
    · rcases hr c hc with h | h
      · exact .inl h
      · exact .inr (.inl h)
    · unfold litT
      repeat' split
      all_goals simp
  · rw [if_neg h1] at hf
    by_cases h2 : h.k = 2
    · rw [if_pos h2] at hf
      simp only [Bool.and_eq_true] at hf
      rcases col_form hf.1.1.1.1 with ⟨_, e, ht⟩ | ⟨e, ht, _⟩
      · refine ⟨_, _, [], ht, by rw [shwX, if_neg h1, if_pos h2]; exact e, fun r hr => foll_sep fun c hc => ?_, by simp [clsT]; exact h2.symm, by simp⟩
        rcases hr c hc with h | h
        · exact .inl h
        · exact .inr (.inl h)
      · refine ⟨_, _, _, ht, by rw [shwX, if_neg h1, if_pos h2]; exact e, fun r hr => foll_sep fun c hc => ?_, by simp [clsT]; exact h2.symm, by simp⟩
        simp at hc; exact .inr (.inr (.inr hc.symm))
    · rw [if_neg h2] at hf
      by_cases h3 : h.k = 3
      · refine ⟨[40], ⟨5, [40], 0⟩, _, .sign (by decide), by rw [shwX, if_neg h1, if_neg h2, if_neg (by omega), List.append_assoc], fun r _ => foll_paren _, by simp [clsT]; exact h3.symm, by simp⟩
      · rw [if_neg h3] at hf
        by_cases h4 : h.k = 4
        · rw [if_pos h4] at hf
          simp only [Bool.and_eq_true] at hf
          have ha := hf.1.1
          have hn : 1 ≤ h.n ∧ h.n ≤ 5 := by
            unfold aggB at ha
            split at ha
            · omega
            · simp only [Bool.and_eq_true, decide_eq_true_eq] at ha; omega
          refine ⟨_, _, _, aggW_tok h.n, by rw [shwX, if_neg h1, if_neg h2, if_pos h4]; exact aggX_form h.n _ hn, fun r _ => foll_sep fun c hc => ?_, ?_, ?_⟩
          · simp at hc; exact .inr (.inr (.inl hc.symm))
          · rw [show (Ex.mk h l).hd.k = h.k from rfl, h4]
            unfold aggW
            repeat' split
            all_goals simp [clsT]
          · unfold aggW
            repeat' split
            all_goals simp
        · rw [if_neg h4] at hf; cases hf
/-- Without columns' places. -/
def plnH (h : Hd) : Hd := if h.k = 2 then { h with n := 0 } else h
mutual
def plnX : Ex → Ex
  | .mk h l => .mk (plnH h) (plnXs l)
def plnXs : List Ex → List Ex
  | [] => []
  | x :: r => plnX x :: plnXs r
end
theorem btw_inj : ∀ {m m' : Nat} {u u' : Lx.B}, 1 ≤ m ∧ m ≤ 14 ∧ m ≠ 3 → 1 ≤ m' ∧ m' ≤ 14 ∧ m' ≠ 3 → btw.getD m [] ++ 32 :: u = btw.getD m' [] ++ 32 :: u' → m = m' ∧ u = u' := by
  intro m m' u u' hm hm' e
  have ht : ∀ {m : Nat} {u : Lx.B}, 1 ≤ m ∧ m ≤ 14 ∧ m ≠ 3 → (btw.getD m [] ++ 32 :: u).takeWhile (fun c => c != 32) = btw.getD m [] := by
    intro m u hm
    refine Lx.takeWhile_all ?_ (by intro x hx; simp at hx; subst hx; decide)
    have : ∀ k : Fin 15, ∀ x ∈ btw.getD k.1 [], (x != 32) = true := by decide +kernel
    exact this ⟨m, by omega⟩
  have h1 := ht (u := u) hm
  rw [e, ht hm'] at h1
  have : ∀ k k' : Fin 15, btw.getD k.1 [] = btw.getD k'.1 [] → 1 ≤ k.1 ∧ k.1 ≠ 3 → 1 ≤ k'.1 ∧ k'.1 ≠ 3 → k.1 = k'.1 := by decide +kernel
  have hk := this ⟨m', by omega⟩ ⟨m, by omega⟩ h1 ⟨hm'.1, hm'.2.2⟩ ⟨hm.1, hm.2.2⟩
  simp only at hk
  subst hk
  exact ⟨rfl, by simpa using e⟩
theorem btw_is {m : Nat} {u v : Lx.B} (hm : 1 ≤ m ∧ m ≤ 14 ∧ m ≠ 3) : btw.getD m [] ++ 32 :: u ≠ 73 :: v := by
  have : ∀ k : Fin 15, (btw.getD k.1 []).head? ≠ some 73 ∧ ((1 ≤ k.1 ∧ k.1 ≠ 3) → btw.getD k.1 [] ≠ []) := by decide +kernel
  have := this ⟨m, by omega⟩
  simp only at this
  intro e
  cases hb : btw.getD m [] with
  | nil => exact this.2 ⟨hm.1, hm.2.2⟩ hb
  | cons c r =>
    rw [hb] at e this
    have h1 := this.1
    simp at h1 e
    exact h1 e.1

/-- What an operator is, with its parts. -/
theorem op_form {h : Hd} {l : List Ex} (hk : h.k = 3) (hf : fitsB h l.length = true) :
    (h.vk = 0 ∧ h.vn = 0 ∧ h.vs = ⟨#[]⟩ ∧ h.tab = ⟨#[]⟩ ∧ h.col = ⟨#[]⟩) ∧
    ((∃ x, l = [x] ∧ (h.n = 3 ∨ h.n = 15 ∨ h.n = 16 ∨ h.n = 17)) ∨ (∃ x y, l = [x, y] ∧ ∃ m : Nat, h.n = m ∧ 1 ≤ m ∧ m ≤ 14 ∧ m ≠ 3)) := by
  unfold fitsB at hf
  rw [if_neg (by omega), if_neg (by omega), if_pos hk] at hf
  simp only [Bool.and_eq_true, decide_eq_true_eq, beq_iff_eq] at hf
  obtain ⟨⟨⟨ha, hl⟩, hn⟩, hv⟩ := hf
  obtain ⟨v1, v2, v3⟩ := vless hv
  obtain ⟨n1, n2⟩ := nless hn
  refine ⟨⟨v1, v2, v3, n1, n2⟩, ?_⟩
  unfold arI at ha hl
  by_cases hu : h.n = 3 ∨ h.n = 15 ∨ h.n = 16 ∨ h.n = 17
  · rw [if_pos hu] at hl
    obtain ⟨x, rfl⟩ := List.length_eq_one_iff.1 (show l.length = 1 by omega)
    exact .inl ⟨x, rfl, hu⟩
  · rw [if_neg hu] at ha hl
    by_cases hv : 1 ≤ h.n ∧ h.n ≤ 17
    · rw [if_pos hv] at hl
      obtain ⟨x, y, rfl⟩ := len2 (show l.length = 2 by omega)
      exact .inr ⟨x, y, rfl, h.n.toNat, by omega, by omega, by omega, by omega⟩
    · rw [if_neg hv] at ha; omega
theorem agg_form {h : Hd} {l : List Ex} (hk : h.k = 4) (hf : fitsB h l.length = true) :
    (h.vk = 0 ∧ h.vn = 0 ∧ h.vs = ⟨#[]⟩ ∧ h.tab = ⟨#[]⟩ ∧ h.col = ⟨#[]⟩) ∧ ((h.n = 1 ∧ l = []) ∨ (∃ x, l = [x] ∧ 2 ≤ h.n ∧ h.n ≤ 5)) := by
  unfold fitsB at hf
  rw [if_neg (by omega), if_neg (by omega), if_neg (by omega), if_pos hk] at hf
  simp only [Bool.and_eq_true] at hf
  obtain ⟨⟨ha, hn⟩, hv⟩ := hf
  obtain ⟨v1, v2, v3⟩ := vless hv
  obtain ⟨n1, n2⟩ := nless hn
  refine ⟨⟨v1, v2, v3, n1, n2⟩, ?_⟩
  unfold aggB at ha
  by_cases h1 : h.n = 1
  · rw [if_pos h1] at ha
    exact .inl ⟨h1, List.eq_nil_of_length_eq_zero (by simpa using ha)⟩
  · rw [if_neg h1] at ha
    simp only [Bool.and_eq_true, decide_eq_true_eq, beq_iff_eq] at ha
    obtain ⟨x, rfl⟩ := List.length_eq_one_iff.1 (show l.length = 1 by omega)
    exact .inr ⟨x, rfl, by omega, by omega⟩
theorem hd_ext {h h' : Hd} (e1 : h.k = h'.k) (e2 : h.n = h'.n) (e3 : h.vk = h'.vk) (e4 : h.vn = h'.vn) (e5 : h.vs = h'.vs) (e6 : h.tab = h'.tab) (e7 : h.col = h'.col) : h = h' := by
  cases h; cases h'; simp_all
theorem opX_pre {n : Int} (f s : Lx.B) : (n = 3 → opX n f s = 78 :: 79 :: 84 :: 32 :: f) ∧ (n = 15 → opX n f s = 45 :: 32 :: f) ∧ (n = 16 → opX n f s = f ++ 32 :: 73 :: 83 :: 32 :: 78 :: 85 :: [76, 76]) ∧ (n = 17 → opX n f s = f ++ 32 :: 73 :: 83 :: 32 :: 78 :: 79 :: [84, 32, 78, 85, 76, 76]) := by
  refine ⟨?_, ?_, ?_, ?_⟩ <;> rintro rfl <;> simp [opX]
theorem opX_bin {m : Nat} (f s : Lx.B) (hm : 1 ≤ m ∧ m ≤ 14 ∧ m ≠ 3) : opX m f s = f ++ 32 :: (btw.getD m [] ++ 32 :: s) := by
  unfold opX
  rw [if_neg (by omega), if_neg (by omega), if_neg (by omega), if_neg (by omega), Int.toNat_natCast]
  simp
/-- The text of a fitting one never begins with NOT and a blank, nor with a sign but a bracket. -/
theorem not_first {x : Ex} (hf : FitX x) (r u : Lx.B) (hr : Fol r) : shwX x ++ r ≠ 78 :: 79 :: 84 :: 32 :: u ∧ shwX x ++ r ≠ 45 :: 32 :: u ∧ shwX x ++ r ≠ 42 :: 41 :: u := by
  obtain ⟨h, l⟩ := x
  rw [FitX] at hf
  obtain ⟨w, t, s, F⟩ := fst_of h l hf.1
  have hN : Lx.TokOf [78, 79, 84] ⟨2, [78, 79, 84], 0⟩ := key_tok (by decide +kernel) ⟨78, [79, 84], rfl, by decide⟩ (by decide) (by decide)
  rw [F.eq, List.append_assoc]
  refine ⟨fun e => ?_, fun e => ?_, fun e => ?_⟩
  · obtain ⟨rfl, _, _⟩ := head_eq (w' := [78, 79, 84]) (r' := 32 :: u) F.tok hN (F.foll r hr) (foll_sep (by intro c hc; simp at hc; exact .inl hc.symm)) (by simpa using e)
    exact F.notn.1 ⟨rfl, rfl⟩
  · obtain ⟨rfl, _, _⟩ := head_eq (w' := [45]) (r' := 32 :: u) F.tok (.sign (by decide)) (F.foll r hr) (foll_sep (by intro c hc; simp at hc; exact .inl hc.symm)) (by simpa using e)
    exact F.notn.2 ⟨rfl, by decide⟩
  · obtain ⟨rfl, _, _⟩ := head_eq (w' := [42]) (r' := 41 :: u) F.tok (.sign (by decide)) (F.foll r hr) (foll_sep (by intro c hc; simp at hc; exact .inr (.inl hc.symm))) (by simpa using e)
    exact F.notn.2 ⟨rfl, by decide⟩
set_option maxHeartbeats 4000000 in
theorem read_n : ∀ (n : Nat) (x y : Ex), cnt x ≤ n → FitX x → FitX y → ∀ (r r' : Lx.B), Fol r → Fol r' → shwX x ++ r = shwX y ++ r' → r = r' ∧ plnX x = plnX y := by
  intro n
  induction n with
  | zero => intro x y hc; have := cnt_pos x; omega
  | succ n ih =>
    intro x y hc hfx hfy r r' hr hr' e
    obtain ⟨h, l⟩ := x
    obtain ⟨h', l'⟩ := y
    have gx := hfx
    have gy := hfy
    rw [FitX] at gx gy
    rw [cnt_mk] at hc
    obtain ⟨w, t, s, F⟩ := fst_of h l gx.1
    obtain ⟨w', t', s', F'⟩ := fst_of h' l' gy.1
    have e0 := e
    rw [F.eq, F'.eq, List.append_assoc, List.append_assoc] at e0
    obtain ⟨et, ew, es⟩ := head_eq F.tok F'.tok (F.foll r hr) (F'.foll r' hr') e0
    have hk : h.k = h'.k := by
      have h1 := F.cls
      have h2 := F'.cls
      rw [et, h2] at h1
      exact h1.symm
    clear F F' e0 et ew es w w' t t' s s'
    have fx := gx.1
    have fy := gy.1
    unfold fitsB at fx fy
    by_cases h1 : h.k = 1
    · have h1' : h'.k = 1 := by omega
      rw [if_pos h1] at fx
      rw [if_pos h1'] at fy
      simp only [Bool.and_eq_true, beq_iff_eq] at fx fy
      obtain ⟨⟨⟨a1, a2⟩, a3⟩, a4⟩ := fx
      obtain ⟨⟨⟨b1, b2⟩, b3⟩, b4⟩ := fy
      obtain ⟨n1, n2⟩ := nless a3
      obtain ⟨m1, m2⟩ := nless b3
      obtain rfl : l = [] := List.eq_nil_of_length_eq_zero (by omega)
      obtain rfl : l' = [] := List.eq_nil_of_length_eq_zero (by omega)
      rw [shwX, if_pos h1, shwX, if_pos h1'] at e
      have fw : ∀ {r : Lx.B} {w : Lx.B}, Fol r → Lx.Foll w r.head? := fun hr => foll_sep fun c hc => (hr c hc).elim .inl fun h => .inr (.inl h)
      obtain ⟨et, _, er⟩ := head_eq (lit_tok a1) (lit_tok b1) (fw hr) (fw hr') e
      obtain ⟨q1, q2, q3⟩ := lit_inj a1 b1 et
      exact ⟨er, by rw [hd_ext hk (by rw [a2, b2]) q1 q2 q3 (by rw [n1, m1]) (by rw [n2, m2])]⟩
    · have h1' : ¬ h'.k = 1 := by omega
      by_cases h2 : h.k = 2
      · have h2' : h'.k = 2 := by omega
        rw [if_neg h1, if_pos h2] at fx
        rw [if_neg h1', if_pos h2'] at fy
        simp only [Bool.and_eq_true, beq_iff_eq] at fx fy
        obtain ⟨⟨⟨⟨a1, _⟩, _⟩, a3⟩, a4⟩ := fx
        obtain ⟨⟨⟨⟨b1, _⟩, _⟩, b3⟩, b4⟩ := fy
        obtain ⟨n1, n2, n3⟩ := vless a3
        obtain ⟨m1, m2, m3⟩ := vless b3
        obtain rfl : l = [] := List.eq_nil_of_length_eq_zero (by omega)
        obtain rfl : l' = [] := List.eq_nil_of_length_eq_zero (by omega)
        rw [shwX, if_neg h1, if_pos h2, shwX, if_neg h1', if_pos h2'] at e
        have fw : ∀ {r : Lx.B} {w : Lx.B}, Fol r → Lx.Foll w r.head? := fun hr => foll_sep fun c hc => (hr c hc).elim .inl fun h => .inr (.inl h)
        have fd : ∀ {r : Lx.B} {w : Lx.B}, Lx.Foll w (46 :: r).head? := fun {r w} => foll_sep fun c hc => by simp at hc; exact .inr (.inr (.inr hc.symm))
        have done : h.tab = h'.tab → h.col = h'.col → plnX (.mk h []) = plnX (.mk h' []) := fun q1 q2 => by
          rw [plnX, plnX]
          refine congrArg (fun z => Ex.mk z _) (hd_ext ?_ ?_ ?_ ?_ ?_ ?_ ?_) <;> unfold plnH <;> rw [if_pos h2, if_pos h2'] <;> simp_all
        have bad : ∀ {r u : Lx.B}, Fol r → r ≠ 46 :: u := fun hr e => by
          have := hr 46 (by rw [e]; rfl)
          rcases this with h | h <;> cases h
        rcases col_form a1 with ⟨t1, c1, k1⟩ | ⟨c1, k1, k2⟩ <;> rcases col_form b1 with ⟨t2, c2, k3⟩ | ⟨c2, k3, k4⟩ <;> rw [c1, c2, List.append_assoc, List.append_assoc] at e
        · obtain ⟨_, ew, er⟩ := head_eq k1 k3 (fw hr) (fw hr') e
          exact ⟨er, done (by rw [t1, t2]) (ba_eq ew)⟩
        · obtain ⟨_, ew, er⟩ := head_eq k1 k3 (fw hr) fd e
          exact absurd er (bad hr)
        · obtain ⟨_, ew, er⟩ := head_eq k1 k3 fd (fw hr') e
          exact absurd er.symm (bad hr')
        · obtain ⟨_, ew, er⟩ := head_eq k1 k3 fd fd e
          have er : bs h.col ++ r = bs h'.col ++ r' := by simpa using er
          obtain ⟨_, ew2, er2⟩ := head_eq k2 k4 (fw hr) (fw hr') er
          exact ⟨er2, done (ba_eq ew) (ba_eq ew2)⟩
      · have h2' : ¬ h'.k = 2 := by omega
        clear fx fy
        have kid : ∀ x' y' : Ex, cnt x' ≤ cntL l → FitX x' → FitX y' → ∀ (u u' : Lx.B), Fol u → Fol u' → shwX x' ++ u = shwX y' ++ u' → u = u' ∧ plnX x' = plnX y' := fun x' y' q => ih x' y' (by omega)
        have pl : plnH h = h := by unfold plnH; rw [if_neg h2]
        have pl' : plnH h' = h' := by unfold plnH; rw [if_neg h2']
        by_cases h3 : h.k = 3
        · have h3' : h'.k = 3 := by omega
          obtain ⟨⟨v1, v2, v3, v4, v5⟩, fo⟩ := op_form h3 gx.1
          obtain ⟨⟨u1, u2, u3, u4, u5⟩, fo'⟩ := op_form h3' gy.1
          have hn : h.n = h'.n → h = h' := fun q => hd_ext hk q (by rw [v1, u1]) (by rw [v2, u2]) (by rw [v3, u3]) (by rw [v4, u4]) (by rw [v5, u5])
          rw [shwX, if_neg h1, if_neg h2, if_neg (by omega), shwX, if_neg h1', if_neg h2', if_neg (by omega)] at e
          simp only [List.cons_append, List.nil_append, List.append_assoc, List.cons.injEq, true_and] at e
          rw [plnX, plnX, pl, pl']
          have tail : ∀ u : Lx.B, Fol (41 :: u) := fol_par
          rcases fo with ⟨a, rfl, ha⟩ | ⟨a, b, rfl, m, hm, hmb⟩ <;> rcases fo' with ⟨a', rfl, ha'⟩ | ⟨a', b', rfl, m', hm', hmb'⟩
          · simp only [shwXs, List.getD_cons_zero, List.getD_cons_succ, List.getD_nil] at e
            rw [FitXs] at gx gy
            have fa := gx.2.1
            have fa' := gy.2.1
            have ca : cnt a ≤ cntL [a] := by simp [cntL]
            have go : ∀ (u u' : Lx.B), Fol u → Fol u' → shwX a ++ u = shwX a' ++ u' → u = u' ∧ plnX a = plnX a' := kid a a' ca fa fa'
            obtain ⟨p1, p2, p3, p4⟩ := opX_pre (n := h.n) (shwX a) []
            obtain ⟨p1', p2', p3', p4'⟩ := opX_pre (n := h'.n) (shwX a') []
            rcases ha with q | q | q | q <;> rcases ha' with q' | q' | q' | q'
            · rw [p1 q, p1' q'] at e
              obtain ⟨er, ep⟩ := go (41 :: r) (41 :: r') (tail r) (tail r') (by simpa using e)
              exact ⟨by simpa using er, by rw [hn (by rw [q, q']), plnXs, plnXs, plnXs, plnXs, ep]⟩
            · rw [p1 q, p2' q'] at e; simp at e
            · rw [p1 q, p3' q'] at e
              exact absurd (show shwX a' ++ (32 :: 73 :: 83 :: 32 :: 78 :: 85 :: [76, 76, 41] ++ r') = 78 :: 79 :: 84 :: 32 :: (shwX a ++ 41 :: r) by simpa using e.symm) (not_first fa' _ _ (fol_blank _)).1
            · rw [p1 q, p4' q'] at e
              exact absurd (show shwX a' ++ (32 :: 73 :: 83 :: 32 :: 78 :: 79 :: [84, 32, 78, 85, 76, 76, 41] ++ r') = 78 :: 79 :: 84 :: 32 :: (shwX a ++ 41 :: r) by simpa using e.symm) (not_first fa' _ _ (fol_blank _)).1
            · rw [p2 q, p1' q'] at e; simp at e
            · rw [p2 q, p2' q'] at e
              obtain ⟨er, ep⟩ := go (41 :: r) (41 :: r') (tail r) (tail r') (by simpa using e)
              exact ⟨by simpa using er, by rw [hn (by rw [q, q']), plnXs, plnXs, plnXs, plnXs, ep]⟩
            · rw [p2 q, p3' q'] at e
              exact absurd (show shwX a' ++ (32 :: 73 :: 83 :: 32 :: 78 :: 85 :: [76, 76, 41] ++ r') = 45 :: 32 :: (shwX a ++ 41 :: r) by simpa using e.symm) (not_first fa' _ _ (fol_blank _)).2.1
            · rw [p2 q, p4' q'] at e
              exact absurd (show shwX a' ++ (32 :: 73 :: 83 :: 32 :: 78 :: 79 :: [84, 32, 78, 85, 76, 76, 41] ++ r') = 45 :: 32 :: (shwX a ++ 41 :: r) by simpa using e.symm) (not_first fa' _ _ (fol_blank _)).2.1
            · rw [p3 q, p1' q'] at e
              exact absurd (show shwX a ++ (32 :: 73 :: 83 :: 32 :: 78 :: 85 :: [76, 76, 41] ++ r) = 78 :: 79 :: 84 :: 32 :: (shwX a' ++ 41 :: r') by simpa using e) (not_first fa _ _ (fol_blank _)).1
            · rw [p3 q, p2' q'] at e
              exact absurd (show shwX a ++ (32 :: 73 :: 83 :: 32 :: 78 :: 85 :: [76, 76, 41] ++ r) = 45 :: 32 :: (shwX a' ++ 41 :: r') by simpa using e) (not_first fa _ _ (fol_blank _)).2.1
            · rw [p3 q, p3' q'] at e
              obtain ⟨er, ep⟩ := go (32 :: 73 :: 83 :: 32 :: 78 :: 85 :: [76, 76, 41] ++ r) (32 :: 73 :: 83 :: 32 :: 78 :: 85 :: [76, 76, 41] ++ r') (fol_blank _) (fol_blank _) (by simpa using e)
              exact ⟨by simpa using er, by rw [hn (by rw [q, q']), plnXs, plnXs, plnXs, plnXs, ep]⟩
            · rw [p3 q, p4' q'] at e
              obtain ⟨er, ep⟩ := go (32 :: 73 :: 83 :: 32 :: 78 :: 85 :: [76, 76, 41] ++ r) (32 :: 73 :: 83 :: 32 :: 78 :: 79 :: [84, 32, 78, 85, 76, 76, 41] ++ r') (fol_blank _) (fol_blank _) (by simpa using e)
              simp at er
            · rw [p4 q, p1' q'] at e
              exact absurd (show shwX a ++ (32 :: 73 :: 83 :: 32 :: 78 :: 79 :: [84, 32, 78, 85, 76, 76, 41] ++ r) = 78 :: 79 :: 84 :: 32 :: (shwX a' ++ 41 :: r') by simpa using e) (not_first fa _ _ (fol_blank _)).1
            · rw [p4 q, p2' q'] at e
              exact absurd (show shwX a ++ (32 :: 73 :: 83 :: 32 :: 78 :: 79 :: [84, 32, 78, 85, 76, 76, 41] ++ r) = 45 :: 32 :: (shwX a' ++ 41 :: r') by simpa using e) (not_first fa _ _ (fol_blank _)).2.1
            · rw [p4 q, p3' q'] at e
              obtain ⟨er, ep⟩ := go (32 :: 73 :: 83 :: 32 :: 78 :: 79 :: [84, 32, 78, 85, 76, 76, 41] ++ r) (32 :: 73 :: 83 :: 32 :: 78 :: 85 :: [76, 76, 41] ++ r') (fol_blank _) (fol_blank _) (by simpa using e)
              simp at er
            · rw [p4 q, p4' q'] at e
              obtain ⟨er, ep⟩ := go (32 :: 73 :: 83 :: 32 :: 78 :: 79 :: [84, 32, 78, 85, 76, 76, 41] ++ r) (32 :: 73 :: 83 :: 32 :: 78 :: 79 :: [84, 32, 78, 85, 76, 76, 41] ++ r') (fol_blank _) (fol_blank _) (by simpa using e)
              exact ⟨by simpa using er, by rw [hn (by rw [q, q']), plnXs, plnXs, plnXs, plnXs, ep]⟩
          · simp only [shwXs, List.getD_cons_zero, List.getD_cons_succ, List.getD_nil] at e
            rw [FitXs] at gx
            rw [FitXs, FitXs] at gy
            have fa := gx.2.1
            have fa' := gy.2.1
            have ca : cnt a ≤ cntL [a] := by simp [cntL]
            have go : ∀ (u u' : Lx.B), Fol u → Fol u' → shwX a ++ u = shwX a' ++ u' → u = u' ∧ plnX a = plnX a' := kid a a' ca fa fa'
            obtain ⟨p1, p2, p3, p4⟩ := opX_pre (n := h.n) (shwX a) []
            rw [hm', opX_bin _ _ hmb'] at e
            rcases ha with q | q | q | q
            · rw [p1 q] at e
              exact absurd (show shwX a' ++ (32 :: (btw.getD m' [] ++ 32 :: (shwX b' ++ 41 :: r'))) = 78 :: 79 :: 84 :: 32 :: (shwX a ++ 41 :: r) by simpa using e.symm) (not_first fa' _ _ (fol_blank _)).1
            · rw [p2 q] at e
              exact absurd (show shwX a' ++ (32 :: (btw.getD m' [] ++ 32 :: (shwX b' ++ 41 :: r'))) = 45 :: 32 :: (shwX a ++ 41 :: r) by simpa using e.symm) (not_first fa' _ _ (fol_blank _)).2.1
            · rw [p3 q] at e
              obtain ⟨er, ep⟩ := go (32 :: 73 :: 83 :: 32 :: 78 :: 85 :: [76, 76, 41] ++ r) (32 :: (btw.getD m' [] ++ 32 :: (shwX b' ++ 41 :: r'))) (fol_blank _) (fol_blank _) (by simpa using e)
              simp only [List.cons_append, List.cons.injEq, true_and] at er
              exact absurd er.symm (btw_is hmb')
            · rw [p4 q] at e
              obtain ⟨er, ep⟩ := go (32 :: 73 :: 83 :: 32 :: 78 :: 79 :: [84, 32, 78, 85, 76, 76, 41] ++ r) (32 :: (btw.getD m' [] ++ 32 :: (shwX b' ++ 41 :: r'))) (fol_blank _) (fol_blank _) (by simpa using e)
              simp only [List.cons_append, List.cons.injEq, true_and] at er
              exact absurd er.symm (btw_is hmb')
          · simp only [shwXs, List.getD_cons_zero, List.getD_cons_succ, List.getD_nil] at e
            rw [FitXs, FitXs] at gx
            rw [FitXs] at gy
            have fa := gx.2.1
            have fa' := gy.2.1
            have ca : cnt a ≤ cntL [a, b] := by simp [cntL]
            have go : ∀ (u u' : Lx.B), Fol u → Fol u' → shwX a ++ u = shwX a' ++ u' → u = u' ∧ plnX a = plnX a' := kid a a' ca fa fa'
            obtain ⟨p1, p2, p3, p4⟩ := opX_pre (n := h'.n) (shwX a') []
            rw [hm, opX_bin _ _ hmb] at e
            rcases ha' with q | q | q | q
            · rw [p1 q] at e
              exact absurd (show shwX a ++ (32 :: (btw.getD m [] ++ 32 :: (shwX b ++ 41 :: r))) = 78 :: 79 :: 84 :: 32 :: (shwX a' ++ 41 :: r') by simpa using e) (not_first fa _ _ (fol_blank _)).1
            · rw [p2 q] at e
              exact absurd (show shwX a ++ (32 :: (btw.getD m [] ++ 32 :: (shwX b ++ 41 :: r))) = 45 :: 32 :: (shwX a' ++ 41 :: r') by simpa using e) (not_first fa _ _ (fol_blank _)).2.1
            · rw [p3 q] at e
              obtain ⟨er, ep⟩ := go (32 :: (btw.getD m [] ++ 32 :: (shwX b ++ 41 :: r))) (32 :: 73 :: 83 :: 32 :: 78 :: 85 :: [76, 76, 41] ++ r') (fol_blank _) (fol_blank _) (by simpa using e)
              simp only [List.cons_append, List.cons.injEq, true_and] at er
              exact absurd er (btw_is hmb)
            · rw [p4 q] at e
              obtain ⟨er, ep⟩ := go (32 :: (btw.getD m [] ++ 32 :: (shwX b ++ 41 :: r))) (32 :: 73 :: 83 :: 32 :: 78 :: 79 :: [84, 32, 78, 85, 76, 76, 41] ++ r') (fol_blank _) (fol_blank _) (by simpa using e)
              simp only [List.cons_append, List.cons.injEq, true_and] at er
              exact absurd er (btw_is hmb)
          · simp only [shwXs, List.getD_cons_zero, List.getD_cons_succ] at e
            rw [FitXs, FitXs] at gx gy
            have ca : cnt a ≤ cntL [a, b] := by simp [cntL]
            have cb : cnt b ≤ cntL [a, b] := by simp [cntL]
            rw [hm, hm', opX_bin _ _ hmb, opX_bin _ _ hmb'] at e
            obtain ⟨er, ep⟩ := kid a a' ca gx.2.1 gy.2.1 (32 :: (btw.getD m [] ++ 32 :: (shwX b ++ 41 :: r))) (32 :: (btw.getD m' [] ++ 32 :: (shwX b' ++ 41 :: r'))) (fol_blank _) (fol_blank _) (by simpa using e)
            simp only [List.cons.injEq, true_and] at er
            obtain ⟨em, eu⟩ := btw_inj hmb hmb' er
            obtain ⟨er2, ep2⟩ := kid b b' cb gx.2.2.1 gy.2.2.1 (41 :: r) (41 :: r') (tail r) (tail r') eu
            exact ⟨by simpa using er2, by rw [hn (by rw [hm, hm', em]), plnXs, plnXs, plnXs, plnXs, plnXs, plnXs, ep, ep2]⟩
        · have h3' : ¬ h'.k = 3 := by omega
          have h4 : h.k = 4 := by
            by_cases h4 : h.k = 4
            · exact h4
            · have := gx.1; unfold fitsB at this; rw [if_neg h1, if_neg h2, if_neg h3, if_neg h4] at this; cases this
          have h4' : h'.k = 4 := by omega
          obtain ⟨⟨v1, v2, v3, v4, v5⟩, fo⟩ := agg_form h4 gx.1
          obtain ⟨⟨u1, u2, u3, u4, u5⟩, fo'⟩ := agg_form h4' gy.1
          have hn : h.n = h'.n → h = h' := fun q => hd_ext hk q (by rw [v1, u1]) (by rw [v2, u2]) (by rw [v3, u3]) (by rw [v4, u4]) (by rw [v5, u5])
          have bd : 1 ≤ h.n ∧ h.n ≤ 5 := by rcases fo with ⟨q, _⟩ | ⟨_, _, q⟩ <;> omega
          have bd' : 1 ≤ h'.n ∧ h'.n ≤ 5 := by rcases fo' with ⟨q, _⟩ | ⟨_, _, q⟩ <;> omega
          rw [shwX, if_neg h1, if_neg h2, if_pos h4, shwX, if_neg h1', if_neg h2', if_pos h4', aggX_form _ _ bd, aggX_form _ _ bd', List.append_assoc, List.append_assoc] at e
          have fp : ∀ {r : Lx.B} {w : Lx.B}, Lx.Foll w (40 :: r).head? := fun {r w} => foll_sep fun c hc => by simp at hc; exact .inr (.inr (.inl hc.symm))
          obtain ⟨_, ew, er⟩ := head_eq (aggW_tok h.n) (aggW_tok h'.n) fp fp e
          rw [plnX, plnX, pl, pl']
          have er : (if h.n = 1 then [42, 41] else (shwXs l).getD 0 [] ++ [41]) ++ r = (if h'.n = 1 then [42, 41] else (shwXs l').getD 0 [] ++ [41]) ++ r' := by simpa using er
          rcases fo with ⟨q, rfl⟩ | ⟨a, rfl, q1, q2⟩ <;> rcases fo' with ⟨q', rfl⟩ | ⟨a', rfl, q1', q2'⟩
          · rw [if_pos q, if_pos q'] at er
            exact ⟨by simpa using er, by rw [hn (by omega)]⟩
          · rw [if_pos q, if_neg (by omega)] at er
            simp only [shwXs, List.getD_cons_zero] at er
            rw [FitXs] at gy
            exact absurd (show shwX a' ++ (41 :: r') = 42 :: 41 :: r by simpa using er.symm) (not_first gy.2.1 _ _ (fol_par _)).2.2
          · rw [if_neg (by omega), if_pos q'] at er
            simp only [shwXs, List.getD_cons_zero] at er
            rw [FitXs] at gx
            exact absurd (show shwX a ++ (41 :: r) = 42 :: 41 :: r' by simpa using er) (not_first gx.2.1 _ _ (fol_par _)).2.2
          · rw [if_neg (by omega), if_neg (by omega)] at er
            simp only [shwXs, List.getD_cons_zero] at er
            rw [FitXs] at gx gy
            have ca : cnt a ≤ cntL [a] := by simp [cntL]
            obtain ⟨er2, ep⟩ := kid a a' ca gx.2.1 gy.2.1 (41 :: r) (41 :: r') (fol_par _) (fol_par _) (by simpa using er)
            have en : h.n = h'.n := by
              have h2 : ∀ n : Int, 2 ≤ n ∧ n ≤ 5 → (n = 2 ∧ aggW n = [67, 79, 85, 78, 84]) ∨ (n = 3 ∧ aggW n = [83, 85, 77]) ∨ (n = 4 ∧ aggW n = [77, 73, 78]) ∨ (n = 5 ∧ aggW n = [77, 65, 88]) := by
                intro n hn
                rcases (show n = 2 ∨ n = 3 ∨ n = 4 ∨ n = 5 by omega) with rfl | rfl | rfl | rfl <;> simp [aggW]
              rcases h2 h.n ⟨q1, q2⟩ with ⟨z, zw⟩ | ⟨z, zw⟩ | ⟨z, zw⟩ | ⟨z, zw⟩ <;> rcases h2 h'.n ⟨q1', q2'⟩ with ⟨z', zw'⟩ | ⟨z', zw'⟩ | ⟨z', zw'⟩ | ⟨z', zw'⟩ <;> rw [zw, zw'] at ew <;> first | (rw [z, z']; done) | (simp at ew)
            exact ⟨by simpa using er2, by rw [hn en, plnXs, plnXs, plnXs, plnXs, ep]⟩
theorem read_one {x y : Ex} (hx : FitX x) (hy : FitX y) (e : shwX x = shwX y) : plnX x = plnX y :=
  (read_n _ x y (Nat.le_refl _) hx hy [] [] fol_nil fol_nil (by rw [e])).2
mutual
theorem shw_pln : ∀ x : Ex, shwX (plnX x) = shwX x
  | .mk h l => by
    have hk : (plnH h).k = h.k := by unfold plnH; split <;> rfl
    rw [plnX, shwX, shwX, shws_pln l, hk]
    by_cases h2 : h.k = 2
    · have : plnH h = { h with n := 0 } := by unfold plnH; rw [if_pos h2]
      rw [this]
      simp [h2]
    · have : plnH h = h := by unfold plnH; rw [if_neg h2]
      rw [this]
theorem shws_pln : ∀ l : List Ex, shwXs (plnXs l) = shwXs l
  | [] => by rw [plnXs]
  | x :: r => by rw [plnXs, shwXs, shwXs, shw_pln x, shws_pln r]
end
theorem hdEq_iff (h h' : Hd) : hdEq h h' = true ↔ h = h' := by
  constructor
  · intro e
    simp only [hdEq, eqV, Bool.and_eq_true, beq_iff_eq, ByteArray.toList_eq] at e
    obtain ⟨⟨⟨⟨a, b⟩, ⟨c, d⟩, f⟩, g⟩, i⟩ := e
    exact hd_ext a b c d (ba_eq f) (ba_eq g) (ba_eq i)
  · rintro rfl; simp [hdEq, eqV]
mutual
theorem sameX_iff : ∀ x y : Ex, sameX x y = true ↔ x = y
  | .mk h l, .mk h' l' => by
    rw [sameX, Bool.and_eq_true, hdEq_iff, sameXs_iff l l', Ex.mk.injEq]
theorem sameXs_iff : ∀ l l' : List Ex, sameXs l l' = true ↔ l = l'
  | [], [] => by simp [sameXs]
  | [], _ :: _ => by simp [sameXs]
  | _ :: _, [] => by simp [sameXs]
  | x :: r, y :: r' => by rw [sameXs, Bool.and_eq_true, sameX_iff x y, sameXs_iff r r', List.cons.injEq]
end
theorem bstr_toList (l : List UInt8) : (bstr l).toList = l := by rw [ByteArray.toList_eq]; simp [bstr]
/-- One text, one expression, but for places. -/
theorem texts_plain {x y : Ex} (hx : FitX x) (hy : FitX y) : ((bstr (shwX x)).toList == (bstr (shwX y)).toList) = sameX (plnX x) (plnX y) := by
  rw [bstr_toList, bstr_toList]
  cases hs : sameX (plnX x) (plnX y) with
  | true =>
    have := (sameX_iff _ _).1 hs
    have e : shwX x = shwX y := by rw [← shw_pln x, ← shw_pln y, this]
    rw [e]; simp
  | false =>
    have hne : ¬ shwX x = shwX y := fun e => by
      have := (sameX_iff _ _).2 (read_one hx hy e)
      rw [hs] at this; cases this
    simpa using hne
end Go.Proofs.YtpokpiphnggfpaaDoor
end
