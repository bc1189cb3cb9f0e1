/-
  Package ledger: Give, Take.
-/
import Derived.Test.YthfopabefknlkabLd8
import Derived.Deep.RegionWith
import Derived.BigRegion
namespace Go.Proofs.Ythfopabefknlkab
open Go.RowKit Go.Maps

def updA (n : Int) (f : Ac → Ac) (L : List Ac) : List Ac := L.map (fun x => if x.n = n then f x else x)
theorem acOf_upd {n : Int} {f : Ac → Ac} {L : List Ac} (hf : ∀ x, (f x).n = x.n ∧ (f x).b = x.b) (k : Int) : acOf (updA n f L) k = (acOf L k).map (fun x => if x.n = n then f x else x) := by
  unfold acOf updA
  rw [List.find?_map]
  congr 2
  funext x
  show ((if x.n = n then f x else x).n == k) = (x.n == k)
  split
  · rw [(hf x).1]
  · rfl
theorem nb_upd {n : Int} {f : Ac → Ac} {L : List Ac} (hf : ∀ x, (f x).n = x.n ∧ (f x).b = x.b) : (updA n f L).map Ac.n = L.map Ac.n ∧ (updA n f L).map Ac.b = L.map Ac.b := by
  unfold updA
  rw [List.map_map, List.map_map]
  constructor <;>
  · apply List.map_congr_left
    intro x _
    simp only [Function.comp]
    split
    · first | exact (hf x).1 | exact (hf x).2
    · rfl
theorem MapOf.upd {w : World} {m : Nat} {n : Int} {f : Ac → Ac} {L : List Ac} (hf : ∀ x, (f x).n = x.n ∧ (f x).b = x.b) (h : MapOf w m L) : MapOf w m (updA n f L) := by
  obtain ⟨D, h1, h2, hat⟩ := h
  have e : (updA n f L).length = L.length := by simp [updA]
  refine ⟨D, by rw [e]; exact h1, by rw [e]; exact h2, fun k z => ?_⟩
  rw [hat, acOf_upd hf]
  cases acOf L k with
  | none => rfl
  | some x =>
    simp only [Option.map_some]
    split
    · rw [(hf x).2]
    · rfl
theorem uniq_n {L : List Ac} (h : (L.map Ac.n).Nodup) {x y : Ac} (hx : x ∈ L) (hy : y ∈ L) (e : x.n = y.n) : x = y := by
  induction L with
  | nil => cases hx
  | cons a L ih =>
    rw [List.map_cons, List.nodup_cons] at h
    rcases List.mem_cons.1 hx with ex | hx2
    · rcases List.mem_cons.1 hy with ey | hy2
      · rw [ex, ey]
      · exact absurd (by rw [← ex, e]; exact List.mem_map_of_mem hy2) h.1
    · rcases List.mem_cons.1 hy with ey | hy2
      · exact absurd (by rw [← ey, ← e]; exact List.mem_map_of_mem hx2) h.1
      · exact ih h.2 hx2 hy2
theorem uniq_b {L : List Ac} (h : (L.map Ac.b).Nodup) {x y : Ac} (hx : x ∈ L) (hy : y ∈ L) (e : x.b = y.b) : x = y := by
  induction L with
  | nil => cases hx
  | cons a L ih =>
    rw [List.map_cons, List.nodup_cons] at h
    rcases List.mem_cons.1 hx with ex | hx2
    · rcases List.mem_cons.1 hy with ey | hy2
      · rw [ex, ey]
      · exact absurd (by rw [← ex, e]; exact List.mem_map_of_mem hy2) h.1
    · rcases List.mem_cons.1 hy with ey | hy2
      · exact absurd (by rw [← ey, ← e]; exact List.mem_map_of_mem hx2) h.1
      · exact ih h.2 hx2 hy2
theorem LedAt.apart {w : World} {l m : Nat} {L : List Ac} {last most : Int} (h : LedAt w l m L last most) {a : Ac} (ha : a ∈ L) : l ≠ a.b ∧ m ≠ a.b ∧ l ≠ m := by
  have h1 := h.box
  have h2 := h.acs a ha
  unfold AcAt at h2
  obtain ⟨D, ⟨es, clock, hmb, _⟩, _⟩ := h.map
  exact ⟨fun e => (by rw [← e, h1] at h2; cases h2), fun e => (by rw [← e, hmb] at h2; cases h2), fun e => (by rw [e, hmb] at h1; cases h1)⟩
/-- One account is written. -/
theorem LedAt.upd {w w' : World} {l m : Nat} {L : List Ac} {last most n : Int} {f : Ac → Ac} {a : Ac} (h : LedAt w l m L last most) (ha : acOf L n = some a) (hf : ∀ x, (f x).n = x.n ∧ (f x).b = x.b)
    (hb : AcAt w' (f a)) (ho : ∀ k, k < w.heap.size → k ≠ a.b → w'.heap[k]? = w.heap[k]?) : LedAt w' l m (updA n f L) last most := by
  obtain ⟨hm, hn⟩ := acOf_mem ha
  obtain ⟨e1, e2, _⟩ := h.apart hm
  obtain ⟨n1, n2⟩ := nb_upd (n := n) (L := L) hf
  refine ⟨(ho l (block_lt h.box) e1).trans h.box, (h.map.kept (ho m h.map.lt e2)).upd hf, fun y hy => ?_, by rw [n1]; exact h.nums, by rw [n2]; exact h.blks⟩
  obtain ⟨x, hx, rfl⟩ := List.mem_map.1 hy
  by_cases e : x.n = n
  · have : x = a := uniq_n h.nums hx hm (by rw [e, hn])
    subst this
    simp only [if_pos e]
    exact hb
  · simp only [if_neg e]
    have hne : x.b ≠ a.b := fun e3 => e (by rw [uniq_b h.blks hx hm e3]; exact hn)
    have hx2 := h.acs x hx
    exact (ho x.b (block_lt hx2) hne).trans hx2

def takeA (p : Int) (a : Ac) : Ac := { a with h := a.h + p, p := max a.p (a.h + p) }
def giveA (p : Int) (a : Ac) : Ac := { a with h := a.h - p }
theorem giveA_same (p : Int) : ∀ x, (giveA p x).n = x.n ∧ (giveA p x).b = x.b := fun _ => ⟨rfl, rfl⟩
theorem takeA_same (p : Int) : ∀ x, (takeA p x).n = x.n ∧ (takeA p x).b = x.b := fun _ => ⟨rfl, rfl⟩
/-- The world behind Give, and its answer. -/
def GiveEnd (B : Nat) (w : World) (l m : Nat) (L : List Ac) (last most n p : Int) (e : Ending) (w' : World) : Prop :=
  Below B w w' ∧ match acOf L n with
    | none => e = .returned (.int .i64 4) ∧ Led B w' l m L last most
    | some a => if p < 0 ∨ a.h < p then e = .returned (.int .i64 1) ∧ Led B w' l m L last most else e = .returned (.int .i64 0) ∧ Led B w' l m (updA n (giveA p) L) last most
theorem Sane.upd {L : List Ac} (h : Sane L) (n : Int) (f : Ac → Ac) (hf : ∀ x, (f x).n = x.n ∧ (f x).b = x.b) (hg : ∀ x ∈ L, x.n = n → 0 ≤ (f x).g ∧ (f x).g ≤ 16384 ∧ 0 ≤ (f x).h ∧ (f x).h ≤ 16384) : Sane (updA n f L) := by
  have key : ∀ y ∈ updA n f L, ∃ x ∈ L, y = if x.n = n then f x else x := fun y hy => by
    obtain ⟨x, hx, rfl⟩ := List.mem_map.1 hy
    exact ⟨x, hx, rfl⟩
  refine ⟨by simp [updA, h.len], fun y hy => ?_, fun y hy => ?_, fun y hy => ?_⟩
  all_goals
    obtain ⟨x, hx, rfl⟩ := key y hy
    by_cases e : x.n = n
    · simp only [if_pos e]
      have h1 := hg x hx e
      have h2 := h.num x hx
      rw [← (hf x).1] at h2
      omega
    · simp only [if_neg e]
      first | exact h.num x hx | exact h.gr x hx | exact h.he x hx
theorem Led.upd {B : Nat} {w w' : World} {l m : Nat} {L : List Ac} {last most n : Int} {f : Ac → Ac} {a : Ac} (h : Led B w l m L last most) (ha : acOf L n = some a) (hf : ∀ x, (f x).n = x.n ∧ (f x).b = x.b)
    (hb : AcAt w' (f a)) (ho : ∀ k, k < w.heap.size → k ≠ a.b → w'.heap[k]? = w.heap[k]?) (hg : 0 ≤ (f a).g ∧ (f a).g ≤ 16384 ∧ 0 ≤ (f a).h ∧ (f a).h ≤ 16384) : Led B w' l m (updA n f L) last most := by
  obtain ⟨hm, hn⟩ := acOf_mem ha
  refine ⟨h.at_.upd ha hf hb ho, h.sane.upd n f hf (fun x hx e => ?_), h.lo.1, h.lo.2.1, fun y hy => ?_⟩
  · have : x = a := uniq_n h.at_.nums hx hm (by rw [e, hn])
    subst this
    exact hg
  · obtain ⟨x, hx, rfl⟩ := List.mem_map.1 hy
    have h3 := h.lo.2.2 x hx
    split
    · rw [(hf x).2]; exact h3
    · exact h3

set_option maxRecDepth 100000 in
set_option maxHeartbeats 1000000 in
theorem give_any (B l m : Nat) (L : List Ac) (last most n p : Int) (w : World) (h : Led B w l m L last most) (hw : (Lit.int .i64 n).wf = true) :
    Calls Try.prog 13 #[.pointer (some ⟨l, 0, none⟩), .int .i64 n, .int .i64 p] w (GiveEnd B w l m L last most n p) := by
  have c0 := h.at_.c0
  have HC := Lib.hid (closed_no l m w c0)
  have hlk := h.at_.map.look hw
  have HL := Lib.hid h
  clear hw h
  unfold GiveEnd
  cases ha : acOf L n with
  | none =>
    rw [ha] at hlk
    simp only at hlk
    clear ha
    go_enter Try.func13, Try.ntmps13
    go_wp2_with fail
    refine HC.out.mono ?_
    rintro e w1 ⟨rfl, rfl⟩
    go_wp2_with fail
    go_ret
    exact ⟨Below.refl _ _, rfl, HL.out⟩
  | some a =>
    rw [ha] at hlk
    simp only at hlk
    obtain ⟨hm, _⟩ := acOf_mem ha
    have hab := HL.out.at_.acs a hm
    obtain ⟨h0, h1⟩ := HL.out.sane.he a hm
    have HAa := Lib.hid ha
    have HAc := Lib.hid hab
    unfold AcAt at hab
    have x2 : w.cell? ⟨a.b, 2, none⟩ = some (.int .i64 a.h) := by simp only [World.cell?, hab]; rfl
    have f2 : w.frozen? ⟨a.b, 2, none⟩ = false := by simp [World.frozen?, hab]
    clear ha hm hab
    by_cases hp : p < 0 ∨ a.h < p
    · simp only [if_pos hp]
      rcases hp with hp | hp
      all_goals
        go_enter Try.func13, Try.ntmps13
        go_wp2_with fail
        refine HC.out.mono ?_
        rintro e w1 ⟨rfl, rfl⟩
        go_wp2_with fail
        go_ret
        exact ⟨Below.refl _ _, rfl, HL.out⟩
    · simp only [if_neg hp]
      have p0 : 0 ≤ p := by omega
      have p1 : p ≤ a.h := by omega
      clear hp
      go_enter Try.func13, Try.ntmps13
      go_wp2_with fail
      refine HC.out.mono ?_
      rintro e w1 ⟨rfl, rfl⟩
      go_wp2_with fail
      go_ret
      have hab := HAc.out
      have hm := (acOf_mem HAa.out).1
      refine ⟨(Below.refl B w).setCell (HL.out.lo.2.2 a hm) _, rfl, HL.out.upd HAa.out (giveA_same p) ?_ ?_ ?_⟩
      · unfold AcAt at hab ⊢
        simp [World.setCell, Array.getElem?_modify, hab, giveA]
      · intro k _ hk
        simp [World.setCell, Array.getElem?_modify, Ne.symm hk]
      · obtain ⟨g0, g1⟩ := HL.out.sane.gr a hm
        exact ⟨g0, g1, by show 0 ≤ a.h - p; omega, by show a.h - p ≤ 16384; omega⟩
end Go.Proofs.Ythfopabefknlkab
