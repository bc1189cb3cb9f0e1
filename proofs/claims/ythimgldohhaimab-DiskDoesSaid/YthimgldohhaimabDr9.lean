/-
  DiskDoes: one call of both (do): Create, Append, Delete, none.
-/
import Derived.Test.YthimgldohhaimabDr8
import Derived.Deep.RegionHeld3
import Derived.Deep.CutRange
namespace Go.Proofs.Ythimgldohhaimab
open Go.RowKit Go.Maps Go.Sort

theorem sum_ps_nonneg (l : List Fl) : 0 ≤ (l.map fun f => (f.ps.length : Int)).sum := by
  induction l with
  | nil => simp
  | cons e l ih => simp only [List.map_cons, List.sum_cons]; omega
def opBox (k n i : Int) (A : Option Addr) (len c : Nat) : Array Value := #[.int .i64 k, .int .i64 n, .int .i64 i, .slice A len c]
/-- Before, between and behind two calls. -/
structure Pd (B : Nat) (w0 w : World) (b l mf ms x : Nat) (k n i : Int) (A : Option Addr) (len c : Nat) (d : Dk) (X : Xd) : Prop where
  D : DkAt B w l mf ms d
  ex : ∃ vF vL, XdAt B w x vF vL X
  op : w.heap[b]? = some (.cells (opBox k n i A len c) 33 (0, 0))
  below : Below B w0 w
section
variable {B : Nat} {w0 w w' : World} {b l mf ms x : Nat} {k n i : Int} {A : Option Addr} {len c : Nat} {d : Dk} {X : Xd} {j : Int}
theorem Pd.c0 (h : Pd B w0 w b l mf ms x k n i A len c d X) : w.cell? ⟨b, 0, none⟩ = some (.int .i64 k) := by have := h.op; simp [World.cell?, this, opBox]
theorem Pd.c1 (h : Pd B w0 w b l mf ms x k n i A len c d X) : w.cell? ⟨b, 1, none⟩ = some (.int .i64 n) := by have := h.op; simp [World.cell?, this, opBox]
theorem Pd.c2 (h : Pd B w0 w b l mf ms x k n i A len c d X) : w.cell? ⟨b, 2, none⟩ = some (.int .i64 i) := by have := h.op; simp [World.cell?, this, opBox]
theorem Pd.c3 (h : Pd B w0 w b l mf ms x k n i A len c d X) : w.cell? ⟨b, 3, none⟩ = some (.slice A len c) := by have := h.op; simp [World.cell?, this, opBox]
theorem Pd.kept (h : Pd B w0 w b l mf ms x k n i A len c d X) (hb : Below w.heap.size w w') : Pd B w0 w' b l mf ms x k n i A len c d X := by
  obtain ⟨vF, vL, hx⟩ := h.ex
  exact ⟨h.D.kept hb, ⟨vF, vL, hx.kept hb⟩, (hb.block b (block_ltD h.op)).trans h.op, h.below.trans (hb.mono hx.lt)⟩
/-- The program's own disk has been at work. -/
theorem Pd.turnD {d' : Dk} (h : Pd B w0 w b l mf ms x k n i A len c d X) (hd : DkAt B w' l mf ms d') (hg : Dg B w w') : Pd B w0 w' b l mf ms x k n i A len c d' X := by
  obtain ⟨vF, vL, hx⟩ := h.ex
  exact ⟨hd, ⟨vF, vL, hx.dg hg⟩, hg.typ _ _ h.op (by simp [outD]), h.below.trans hg.below⟩
/-- The document's own disk has been at work. -/
theorem Pd.turnX {X' : Xd} {vF vL : Value} (h : Pd B w0 w b l mf ms x k n i A len c d X) (hx : XdAt B w' x vF vL X') (hg : Xg B w w') : Pd B w0 w' b l mf ms x k n i A len c d X' :=
  ⟨h.D.aside hg.aside, ⟨vF, vL, hx⟩, hg.typ _ _ h.op (by simp [ofX]), h.below.trans hg.below⟩
theorem pd_start {vF vL : Value} (hd : DkAt B w l mf ms d) (hx : XdAt B w x vF vL X) : Pd B w (w.alloc (.cells (opBox k n i A len c) 33)) w.heap.size l mf ms x k n i A len c d X :=
  ⟨hd.kept (ba w _), ⟨vF, vL, hx.kept (ba w _)⟩, (MapKept.heap_alloc w _).1, (ba w _).mono hx.lt⟩
/-- Bytes that came in, below all disks. -/
def DataIn (B : Nat) (w : World) (A : Option Addr) (q : List Int) : Prop := q = [] ∨ ∃ b o : Nat, A = some ⟨b, o, none⟩ ∧ b < B ∧ ∀ (i : Nat) (u : Value), (q.map (Value.int .u8))[i]? = some u → w.cell? ⟨b, o + i, none⟩ = some u
theorem DataIn.bytes {q : List Int} (h : DataIn B w0 A q) (hb : Below B w0 w) (hq : q.length = 256) : BytesIn B w A q := by
  rcases h with h | ⟨b, o, hA, hlt, hc⟩
  · rw [h] at hq; cases hq
  · exact ⟨b, o, hA, fun W hW i u hu => (((hb.trans hW).cell (p := ⟨b, o + i, none⟩) hlt).trans (hc i u hu))⟩
theorem DataIn.range {q : List Int} (h : DataIn B w0 A q) (hb : Below B w0 w) (hq : q.length = 256) : ∃ b o, A = some ⟨b, o, none⟩ ∧ ∀ W, Dg B w W → W.rangeAt b o (q.map (Value.int .u8)) := by
  obtain ⟨b, o, hA, hc⟩ := h.bytes hb hq
  exact ⟨b, o, hA, fun W hW i u hu => hc W hW.below i u hu⟩
def appR (d : Dk) (n : Int) (q : List Int) : Int :=
  if q.length ≠ 256 then 1 else if (flOf d.fs n).isNone then 4 else if d.room ≤ d.us then 2 else if d.deeds + 1 ∈ d.fa then 50 else 0
def AppD (d : Dk) (n : Int) (q : List Int) (d' : Dk) : Prop :=
  if q.length ≠ 256 then d' = d else if (flOf d.fs n).isNone then d' = d else if d.room ≤ d.us then d' = d else if d.deeds + 1 ∈ d.fa then d' = d.deed else ∃ v, d' = d.deed.app n v q
theorem p_app {q : List Int} (h : Hid (Pd B w0 w b l mf ms x k n i A q.length c d X)) (hs : Hid (Sy d X j)) (hj : Hid (j < 1000000000000)) (hw : (Lit.int .i64 n).wf = true) (hql : Hid (q.length ≤ 1000)) (hq : Hid (DataIn B w0 A q)) :
    Calls Try.prog 10 #[.pointer (some ⟨l, 0, none⟩), .int .i64 n, .slice A q.length c] w fun e w' => e = .returned (.int .i64 (appR d n q)) ∧ ∃ d', Hid (Pd B w0 w' b l mf ms x k n i A q.length c d' X) ∧ Hid (AppD d n q d') ∧ (w'.cell? ⟨b, 1, none⟩ = some (.int .i64 n) ∧ w'.cell? ⟨b, 3, none⟩ = some (.slice A q.length c)) := by
  have hc := hs.out.cnt
  have hj := hj.out
  have key : ∀ (w' : World) (d' : Dk), Pd B w0 w' b l mf ms x k n i A q.length c d' X → AppD d n q d' → ∃ d', Hid (Pd B w0 w' b l mf ms x k n i A q.length c d' X) ∧ Hid (AppD d n q d') ∧ (w'.cell? ⟨b, 1, none⟩ = some (.int .i64 n) ∧ w'.cell? ⟨b, 3, none⟩ = some (.slice A q.length c)) := fun w' d' h1 h2 => ⟨d', Lib.hid h1, Lib.hid h2, h1.c1, h1.c3⟩
  refine (append_any B l mf ms d n q A c w h.out.D hw (by omega) (by omega) (by have := hql.out; omega) (fun e => hq.out.range h.out.below e)).mono ?_
  rintro e w' he
  unfold AppEnd at he
  unfold appR
  by_cases a1 : q.length ≠ 256
  · rw [if_pos a1] at he ⊢
    obtain ⟨rfl, rfl⟩ := he
    exact ⟨rfl, key _ d h.out (by unfold AppD; rw [if_pos a1])⟩
  rw [if_neg a1] at he ⊢
  by_cases a2 : (flOf d.fs n).isNone
  · rw [if_pos a2] at he ⊢
    obtain ⟨rfl, rfl⟩ := he
    exact ⟨rfl, key _ d h.out (by unfold AppD; rw [if_neg a1, if_pos a2])⟩
  rw [if_neg a2] at he ⊢
  by_cases a3 : d.room ≤ d.us
  · rw [if_pos a3] at he ⊢
    obtain ⟨rfl, hg, hd⟩ := he
    exact ⟨rfl, key _ d (h.out.turnD hd hg) (by unfold AppD; rw [if_neg a1, if_neg a2, if_pos a3])⟩
  rw [if_neg a3] at he ⊢
  by_cases a4 : d.deeds + 1 ∈ d.fa
  · rw [if_pos a4] at he ⊢
    obtain ⟨rfl, hd, hg⟩ := he
    exact ⟨rfl, key _ d.deed (h.out.turnD hd hg) (by unfold AppD; rw [if_neg a1, if_neg a2, if_neg a3, if_pos a4])⟩
  rw [if_neg a4] at he ⊢
  obtain ⟨rfl, ⟨v, hd⟩, hg⟩ := he
  exact ⟨rfl, key _ _ (h.out.turnD hd hg) (by unfold AppD; rw [if_neg a1, if_neg a2, if_neg a3, if_neg a4]; exact ⟨v, rfl⟩)⟩
theorem p_rapp {q : List Int} {d' : Dk} (h : Hid (Pd B w0 w b l mf ms x k n i A q.length c d' X)) (ha : Hid (AppD d n q d')) (hs : Hid (Sy d X j)) (hd : Hid (Sd d)) (hj : Hid (j < 1000000000000)) (hql : Hid (q.length ≤ 1000)) (hq : Hid (DataIn B w0 A q)) :
    Calls Try.prog 19 #[.pointer (some ⟨x, 0, none⟩), .int .i64 n, .slice A q.length c] w fun e w' => e = .returned (.int .i64 (appR d n q)) ∧ ∃ X', Hid (Pd B w0 w' b l mf ms x k n i A q.length c d' X') ∧ Hid (Sy d' X' (j + 1)) ∧ (w'.cell? ⟨b, 1, none⟩ = some (.int .i64 n) ∧ w'.cell? ⟨b, 3, none⟩ = some (.slice A q.length c)) := by
  have hS := hs.out
  have hc := hS.cnt
  have hj := hj.out
  have hsd := hd.out
  obtain ⟨vF, vL, hx⟩ := h.out.ex
  have hu : 0 ≤ X.us ∧ X.us ≤ 16384 := by
    rw [hS.us]
    have h1 := hsd.room
    have h2 := hsd.most
    have h3 : 0 ≤ d.us := by
      rw [hsd.used]
      exact sum_ps_nonneg _
    omega
  refine (rappend_any hx n q A c (fun e => hq.out.bytes h.out.below e) (by have := hql.out; omega) (by rw [hS.deeds]; omega) (by rw [hS.wr]; omega) hu (hS.room_left hsd)).mono ?_
  rintro e w' ⟨r, X', vL', rfl, hx', hg, he⟩
  have key : ∀ (_ : Sy d' X' (j + 1)), ∃ X', Hid (Pd B w0 w' b l mf ms x k n i A q.length c d' X') ∧ Hid (Sy d' X' (j + 1)) ∧ (w'.cell? ⟨b, 1, none⟩ = some (.int .i64 n) ∧ w'.cell? ⟨b, 3, none⟩ = some (.slice A q.length c)) := fun h2 =>
    have h1 := h.out.turnX hx' hg
    ⟨X', Lib.hid h1, Lib.hid h2, h1.c1, h1.c3⟩
  have hA := ha.out
  unfold AppD at hA
  unfold appR
  by_cases a1 : q.length ≠ 256
  · rw [if_pos a1] at he hA ⊢
    obtain ⟨rfl, rfl⟩ := he
    exact ⟨rfl, key (by rw [hA]; exact hS.mono (by omega))⟩
  rw [if_neg a1] at he hA ⊢
  rw [hS.none] at he
  by_cases a2 : (flOf d.fs n).isNone
  · rw [if_pos a2] at he hA ⊢
    obtain ⟨rfl, rfl⟩ := he
    exact ⟨rfl, key (by rw [hA]; exact hS.mono (by omega))⟩
  rw [if_neg a2] at he hA ⊢
  have hru : X.room ≤ X.us ↔ d.room ≤ d.us := by rw [hS.room, hS.us]
  by_cases a3 : d.room ≤ d.us
  · rw [if_pos (hru.2 a3)] at he
    rw [if_pos a3] at hA ⊢
    obtain ⟨rfl, rfl⟩ := he
    exact ⟨rfl, key (by rw [hA]; exact hS.mono (by omega))⟩
  rw [if_neg (fun e => a3 (hru.1 e))] at he
  rw [if_neg a3] at hA ⊢
  by_cases a4 : d.deeds + 1 ∈ d.fa
  · rw [if_pos (hS.hit.2 a4)] at he
    rw [if_pos a4] at hA ⊢
    obtain ⟨rfl, rfl⟩ := he
    exact ⟨rfl, key (by rw [hA]; exact hS.deed)⟩
  rw [if_neg (fun e => a4 (hS.hit.1 e))] at he
  rw [if_neg a4] at hA ⊢
  obtain ⟨rfl, v, rfl⟩ := he
  obtain ⟨u, rfl⟩ := hA
  exact ⟨rfl, key (hS.app n u v q)⟩
def delR (d : Dk) (n : Int) : Int := if (flOf d.fs n).isNone then 4 else 0
def DelD (d : Dk) (n : Int) (d' : Dk) : Prop := match flOf d.fs n with
  | none => d' = d
  | some f => d' = d.del f
theorem p_del (h : Hid (Pd B w0 w b l mf ms x k n i A len c d X)) (hw : (Lit.int .i64 n).wf = true) :
    Calls Try.prog 15 #[.pointer (some ⟨l, 0, none⟩), .int .i64 n] w fun e w' => e = .returned (.int .i64 (delR d n)) ∧ ∃ d', Hid (Pd B w0 w' b l mf ms x k n i A len c d' X) ∧ Hid (DelD d n d') ∧ w'.cell? ⟨b, 1, none⟩ = some (.int .i64 n) := by
  refine (delete_any B l mf ms d n w h.out.D hw).mono ?_
  rintro e w' he
  unfold DelEnd at he
  unfold delR DelD
  cases hf : flOf d.fs n with
  | none =>
    rw [hf] at he
    obtain ⟨rfl, rfl⟩ := he
    exact ⟨rfl, d, Lib.hid h.out, Lib.hid rfl, h.out.c1⟩
  | some f =>
    rw [hf] at he
    obtain ⟨rfl, hd, hg, _⟩ := he
    have h1 := h.out.turnD hd hg
    exact ⟨rfl, d.del f, Lib.hid h1, Lib.hid rfl, h1.c1⟩
theorem p_rdel {d' : Dk} (h : Hid (Pd B w0 w b l mf ms x k n i A len c d' X)) (ha : Hid (DelD d n d')) (hs : Hid (Sy d X j)) (hd : Hid (Sd d)) :
    Calls Try.prog 21 #[.pointer (some ⟨x, 0, none⟩), .int .i64 n] w fun e w' => e = .returned (.int .i64 (delR d n)) ∧ ∃ X', Hid (Pd B w0 w' b l mf ms x k n i A len c d' X') ∧ Hid (Sy d' X' j) ∧ w'.cell? ⟨b, 1, none⟩ = some (.int .i64 n) := by
  have hS := hs.out
  have hsd := hd.out
  obtain ⟨vF, vL, hx⟩ := h.out.ex
  have hu : -100000 ≤ X.us ∧ X.us ≤ 100000 := by
    rw [hS.us]
    have h1 := hsd.room
    have h2 := hsd.most
    have h3 : 0 ≤ d.us := by
      rw [hsd.used]
      exact sum_ps_nonneg _
    omega
  refine (rdelete_any hx n hu).mono ?_
  rintro e w' ⟨hg, he⟩
  have hA := ha.out
  have hN := hS.none n
  unfold DelD at hA
  unfold delR
  rcases he with ⟨hf, rfl, vL', hx'⟩ | ⟨f, hf, rfl, vL', hx'⟩
  · have h1 := h.out.turnX hx' hg
    rw [hf] at hN
    cases hfd : flOf d.fs n with
    | some g => rw [hfd] at hN; cases hN
    | none =>
      rw [hfd] at hA
      exact ⟨rfl, X, Lib.hid h1, Lib.hid (by rw [hA]; exact hS), h1.c1⟩
  · have h1 := h.out.turnX hx' hg
    rw [hf] at hN
    cases hfd : flOf d.fs n with
    | none => rw [hfd] at hN; cases hN
    | some g =>
      rw [hfd] at hA
      exact ⟨rfl, _, Lib.hid h1, Lib.hid (by rw [hA]; exact hS.del hfd hf), h1.c1⟩
def DoEnd (B : Nat) (w : World) (l mf ms x : Nat) (j : Int) (e : Ending) (w' : World) : Prop := e = .returned (.bool true) ∧ Two B w' l mf ms x (j + 1) ∧ Below B w w'
theorem Pd.two (h : Pd B w0 w b l mf ms x k n i A len c d X) (hs : Sy d X j) : Two B w l mf ms x j := by
  obtain ⟨vF, vL, hx⟩ := h.ex
  exact ⟨d, X, vF, vL, h.D, hx, hs⟩
set_option maxRecDepth 100000 in
set_option maxHeartbeats 4000000 in
theorem do_2 {q : List Int} (h : Two B w l mf ms x j) (hj : j < 1000000000000) (n i : Int) (A : Option Addr) (c : Nat) (hw : (Lit.int .i64 n).wf = true) (hql : q.length ≤ 1000) (hq : DataIn B w A q) :
    Calls Try.prog 7 #[.pointer (some ⟨l, 0, none⟩), .pointer (some ⟨x, 0, none⟩), .agg #[.int .i64 2, .int .i64 n, .int .i64 i, .slice A q.length c]] w (DoEnd B w l mf ms x j) := by
  obtain ⟨d, X, vF, vL, hd, hx, hs⟩ := h.ex
  have HP := Lib.hid (pd_start (k := 2) (n := n) (i := i) (A := A) (len := q.length) (c := c) hd hx)
  have HS := Lib.hid hs
  have HSd := Lib.hid hd.sane
  have HJ := Lib.hid hj
  have HQ := Lib.hid hq
  have HL := Lib.hid hql
  have HW := Lib.hid hw
  obtain ⟨b, hb⟩ : ∃ b, b = w.heap.size := ⟨_, rfl⟩
  rw [← hb] at HP
  have HBb := Lib.hid hb
  clear h hd hx hs hj hq hql hw
  go_enter Try.func7, Try.ntmps7
  go_upto_region 1 with fail
  rw [← HBb.out]
  clear hb
  unfold opBox at HP
  generalize w.alloc (.cells #[.int .i64 2, .int .i64 n, .int .i64 i, .slice A q.length c] 33) = W at HP ⊢
  have x0 := HP.out.c0
  go_upto_region 7 with fail
  clear x0
  have HPd := Lib.hid (show Pd B w W.drew b l mf ms x 2 n i A q.length c d X from HP.out.kept (Below.drew (Below.refl _ _)))
  clear HP
  have x1 : W.drew.cell? ⟨b, 1, none⟩ = some (.int .i64 n) ∧ W.drew.cell? ⟨b, 3, none⟩ = some (.slice A q.length c) := ⟨HPd.out.c1, HPd.out.c3⟩
  go_region_held3 (fun w' => w'.cell? ⟨b, 1, none⟩ = some (.int .i64 n) ∧ w'.cell? ⟨b, 3, none⟩ = some (.slice A q.length c))
    (first
      | exact x1
      | exact x2
      | exact x3)
    (first
      | (go_at_call 10; refine (p_app (by assumption) HS HJ HW.out HL HQ).mono ?_; rintro e w1 ⟨rfl, d1, hp1, ha1, x2⟩)
      | (go_at_call 19; refine (p_rapp (by assumption) (by assumption) HS HSd HJ HL HQ).mono ?_; rintro e w2 ⟨rfl, X2, hp2, hs2, x3⟩))
  go_wp2_with fail
  go_ret
  exact ⟨rfl, hp2.out.two hs2.out, hp2.out.below⟩
end
end Go.Proofs.Ythimgldohhaimab
