/-
  Package disk: the calls that DiskFaults makes.
-/
import Derived.Test.YthimgldohhaimabDkd
namespace Go.Proofs.Ythimgldohhaimab
open Go.RowKit Go.Maps Go.Sort

theorem flOf_setF {fs : List Fl} {n : Int} {v : Value} {q : List Int} {f : Fl} (h : flOf fs n = some f) : flOf (setF fs n v q) n = some ⟨n, v, f.ps ++ [q]⟩ := by
  induction fs with
  | nil => cases h
  | cons a fs ih =>
    have hc : setF (a :: fs) n v q = (if a.n = n then ⟨n, v, a.ps ++ [q]⟩ else a) :: setF fs n v q := rfl
    rw [hc]
    unfold flOf at h ih ⊢
    by_cases e : a.n = n
    · rw [List.find?_cons_of_pos (by simp [e])] at h
      cases h
      rw [if_pos e, List.find?_cons_of_pos (by simp)]
    · rw [List.find?_cons_of_neg (by simp [e])] at h
      rw [if_neg e, List.find?_cons_of_neg (by simp [e])]
      exact ih h
theorem flOf_setF_ne {fs : List Fl} {n k : Int} {v : Value} {q : List Int} (hk : k ≠ n) : flOf (setF fs n v q) k = flOf fs k := by
  induction fs with
  | nil => rfl
  | cons a fs ih =>
    have hc : setF (a :: fs) n v q = (if a.n = n then ⟨n, v, a.ps ++ [q]⟩ else a) :: setF fs n v q := rfl
    rw [hc]
    unfold flOf at ih ⊢
    by_cases e : a.n = n
    · rw [if_pos e, List.find?_cons_of_neg (by simp; omega), List.find?_cons_of_neg (by simp; omega), ih]
    · rw [if_neg e]
      by_cases e2 : a.n = k
      · rw [List.find?_cons_of_pos (by simp [e2]), List.find?_cons_of_pos (by simp [e2])]
      · rw [List.find?_cons_of_neg (by simp [e2]), List.find?_cons_of_neg (by simp [e2]), ih]
/-- The disk of DiskFaults behind so many deeds. -/
def FlSt (B : Nat) (w : World) (l mf ms : Nat) (fa : List Int) (i dn : Int) : Prop :=
  ∃ d f, DkAt B w l mf ms d ∧ d.room = 16384 ∧ d.deeds = i ∧ d.wr = dn ∧ d.us = dn ∧ flOf d.fs 1 = some f ∧ ∀ m, i < m → (m ∈ d.fa ↔ m ∈ fa ∧ 1 ≤ m)
theorem FlSt.kept {B : Nat} {w w' : World} {l mf ms : Nat} {fa : List Int} {i dn : Int} (h : FlSt B w l mf ms fa i dn) (hb : Below w.heap.size w w') : FlSt B w' l mf ms fa i dn := by
  obtain ⟨d, f, h1, h2⟩ := h
  exact ⟨d, f, h1.kept hb, h2⟩
def wantF (fa : List Int) (i : Int) : Int := if i + 1 ∈ fa then 50 else 0
def doneF (fa : List Int) (i dn : Int) : Int := if i + 1 ∈ fa then dn else dn + 1
set_option maxRecDepth 100000 in
theorem fl_app {B : Nat} {w : World} {l mf ms : Nat} {fa : List Int} {i dn : Int} (h : FlSt B w l mf ms fa i dn) (h0 : 0 ≤ dn) (h1 : dn ≤ i) (h2 : i < 1000) (g : Nat) (hg : BlkAt w g (pageC 1)) :
    Calls Try.prog 10 #[.pointer (some ⟨l, 0, none⟩), .int .i64 1, .slice (some ⟨g, 0, none⟩) 256 256] w fun e w' => e = .returned (.int .i64 (wantF fa i)) ∧ FlSt B w' l mf ms fa (i + 1) (doneF fa i dn) ∧ Dg B w w' := by
  obtain ⟨d, f, hd, hr, hi, hw, hu, hf, hF⟩ := h
  refine (app_page hd 1 1 g hg (by decide) (by omega) (by omega)).mono ?_
  intro e w' hh
  unfold AppEnd at hh
  rw [if_neg (fun hh => hh (pageC_len _)), if_neg (by rw [hf]; simp), if_neg (by omega), hi] at hh
  unfold wantF doneF
  by_cases hm : i + 1 ∈ fa
  · rw [if_pos ((hF (i + 1) (by omega)).2 ⟨hm, by omega⟩)] at hh
    rw [if_pos hm, if_pos hm]
    refine ⟨hh.1, ⟨d.deed, f, hh.2.1, hr, by show d.deeds + 1 = i + 1; rw [hi], hw, hu, hf, fun m hmm => ?_⟩, hh.2.2⟩
    show m ∈ d.fa.filter (fun k => k != d.deeds + 1) ↔ _
    rw [List.mem_filter, hF m (by omega), hi]
    constructor
    · exact fun h => h.1
    · intro h; exact ⟨h, by simp; omega⟩
  · rw [if_neg (fun h => hm ((hF (i + 1) (by omega)).1 h).1)] at hh
    rw [if_neg hm, if_neg hm]
    obtain ⟨v, hv⟩ := hh.2.1
    refine ⟨hh.1, ⟨_, _, hv, hr, by show d.deeds + 1 = i + 1; rw [hi], by show d.wr + 1 = dn + 1; rw [hw], by show d.us + 1 = dn + 1; rw [hu], flOf_setF hf, fun m hmm => ?_⟩, hh.2.2⟩
    show m ∈ d.fa.filter (fun k => k != d.deeds + 1) ↔ _
    rw [List.mem_filter, hF m (by omega), hi]
    constructor
    · exact fun h => h.1
    · intro h; exact ⟨h, by simp; omega⟩
theorem fl_new (A : Option Addr) (c : Nat) (fa : List Int) (w : World) (hA : NumsAt w A fa) (hwf : ∀ n ∈ fa, (Lit.int .i64 n).wf = true) (hl : fa.length ≤ maxLen) :
    Calls Try.prog 5 #[.int .i64 16384, .slice A fa.length c] w fun e w' => (∃ l mf ms, e = .returned (.tuple #[.pointer (some ⟨l, 0, none⟩), .int .i64 0]) ∧ NewAt w.heap.size w' l mf ms 16384 fa) ∧ Below w.heap.size w w' := by
  refine (newD_any 16384 A c fa w hA hwf hl).mono ?_
  intro e w' hh
  obtain ⟨hb, hh⟩ := hh
  rw [if_pos (by decide)] at hh
  exact ⟨hh, hb⟩
theorem NewAt.kept {B : Nat} {w w' : World} {l mf ms : Nat} {room : Int} {fa : List Int} (h : NewAt B w l mf ms room fa) (hb : Below w.heap.size w w') : NewAt B w' l mf ms room fa := by
  obtain ⟨F, h1, h2⟩ := h
  exact ⟨F, h1.kept hb, h2⟩
theorem fl_create {B : Nat} {w : World} {l mf ms : Nat} {fa : List Int} (h : NewAt B w l mf ms 16384 fa) :
    Calls Try.prog 9 #[.pointer (some ⟨l, 0, none⟩)] w fun e w' => e = .returned (.tuple #[.int .i64 1, .int .i64 0]) ∧ FlSt B w' l mf ms fa 0 0 ∧ Dg B w w' := by
  obtain ⟨F, hd, hF, _⟩ := h
  refine (create_any B l mf ms _ w hd (by simp only [dkNew]; omega)).mono ?_
  intro e w' hh
  unfold CreateEnd at hh
  rw [if_neg (by simp [dkNew])] at hh
  exact ⟨hh.1, ⟨_, _, hh.2.1, rfl, rfl, rfl, rfl, rfl, fun m _ => hF m⟩, hh.2.2.1⟩
theorem fl_meter {B : Nat} {w : World} {l mf ms : Nat} {fa : List Int} {i dn : Int} (h : FlSt B w l mf ms fa i dn) :
    Calls Try.prog 14 #[.pointer (some ⟨l, 0, none⟩)] w fun e w' => (∃ r u p, e = .returned (.agg #[.int .i64 r, .int .i64 dn, .int .i64 u, .int .i64 p])) ∧ Below w.heap.size w w' := by
  obtain ⟨d, f, hd, _, _, hw, _⟩ := h
  refine (meter_any B l mf ms d w hd).mono ?_
  rintro e w' ⟨rfl, hb⟩
  exact ⟨⟨_, _, _, by rw [hw]⟩, hb⟩
theorem fl_deeds {B : Nat} {w : World} {l mf ms : Nat} {fa : List Int} {i dn : Int} (h : FlSt B w l mf ms fa i dn) :
    Calls Try.prog 16 #[.pointer (some ⟨l, 0, none⟩)] w fun e w' => e = .returned (.int .i64 i) ∧ w = w' := by
  obtain ⟨d, f, hd, _, hi, _⟩ := h
  rw [← hi]
  exact deeds_any B l mf ms d w hd
theorem field_writes (a b c d : Int) (w : World) : (Instr.field 45 (.agg #[.int .i64 a, .int .i64 b, .int .i64 c, .int .i64 d]) 1).run Try.prog w = .ok (.int .i64 b) w := by kernel_rfl
end Go.Proofs.Ythimgldohhaimab
