/-
  Package disk: the calls that the laws' lives makes.
-/
import Derived.Test.YthimgldohhaimabDkb
namespace Go.Proofs.Ythimgldohhaimab
open Go.RowKit Go.Maps Go.Sort

/-- Of the deeds from k on only the second one is at fault. -/
def Flt2 (k : Int) (F : List Int) : Prop := ∀ n, k ≤ n → (n ∈ F ↔ n = 2)
theorem Flt2.next {k : Int} {F : List Int} (h : Flt2 k F) : Flt2 (k + 1) (F.filter fun x => x != k) := fun n hn => by
  rw [List.mem_filter, h n (by omega)]
  constructor
  · exact fun h => h.1
  · intro h; exact ⟨h, by simp; omega⟩
theorem pageC_len (c : Int) : (pageC c).length = 256 := List.length_replicate
theorem app_page {B : Nat} {w : World} {l mf ms : Nat} {d : Dk} (h : DkAt B w l mf ms d) (n c : Int) (g : Nat) (hg : BlkAt w g (pageC c)) (hw : (Lit.int .i64 n).wf = true) (hd : d.deeds < 1000000000000) (hr : d.wr < 1000000000000) :
    Calls Try.prog 10 #[.pointer (some ⟨l, 0, none⟩), .int .i64 n, .slice (some ⟨g, 0, none⟩) 256 256] w (AppEnd B w l mf ms d n (pageC c)) := by
  have := append_any B l mf ms d n (pageC c) (some ⟨g, 0, none⟩) 256 w h hw hd hr (by rw [pageC_len]; decide) (fun _ => ⟨g, 0, rfl, fun W hW => hg.range hW⟩)
  rwa [pageC_len c] at this
def dkA (F : List Int) : Dk := ⟨2, F, [⟨1, .slice none 0 0, []⟩], 1, 0, 0, 0, 0, 0⟩
def dkB (F : List Int) (v : Value) (k : Int) : Dk := ⟨2, F, [⟨1, v, [pageC 1]⟩], 1, k, 0, 1, 1, 1⟩
def dkC (F : List Int) (v : Value) (k r : Int) : Dk := ⟨2, F, [⟨1, v, [pageC 1, pageC 3]⟩], 1, k, r, 2, 2, 2⟩
def dkD (F : List Int) : Dk := ⟨2, F, [], 1, 4, 1, 2, 0, 2⟩
def dkE (F : List Int) : Dk := ⟨2, F, [⟨2, .slice none 0 0, []⟩], 2, 4, 1, 2, 0, 2⟩
section
variable {B : Nat} {w : World} {l mf ms : Nat} {F : List Int} {v : Value}
theorem dv_create (h : DkAt B w l mf ms (dkNew 2 F)) :
    Calls Try.prog 9 #[.pointer (some ⟨l, 0, none⟩)] w fun e w' => e = .returned (.tuple #[.int .i64 1, .int .i64 0]) ∧ DkAt B w' l mf ms (dkA F) ∧ Dg B w w' := by
  refine (create_any B l mf ms _ w h (by simp only [dkNew]; omega)).mono ?_
  intro e w' hh
  unfold CreateEnd at hh
  rw [if_neg (by simp [dkNew])] at hh
  exact ⟨hh.1, hh.2.1, hh.2.2.1⟩
set_option maxRecDepth 100000 in
theorem dv_app1 (h : DkAt B w l mf ms (dkA F)) (hF : Flt2 1 F) (g : Nat) (hg : BlkAt w g (pageC 1)) :
    Calls Try.prog 10 #[.pointer (some ⟨l, 0, none⟩), .int .i64 1, .slice (some ⟨g, 0, none⟩) 256 256] w fun e w' => e = .returned (.int .i64 0) ∧ (∃ F' v, DkAt B w' l mf ms (dkB F' v 1) ∧ Flt2 2 F') ∧ Dg B w w' := by
  refine (app_page h 1 1 g hg (by decide) (by simp only [dkA]; omega) (by simp only [dkA]; omega)).mono ?_
  intro e w' hh
  unfold AppEnd at hh
  rw [if_neg (fun hh => hh (pageC_len _)), if_neg (fun hh => Bool.noConfusion hh), if_neg (show ¬ ((dkA F).room ≤ (dkA F).us) from (by decide : ¬ ((2 : Int) ≤ 0))), if_neg (show ¬ ((dkA F).deeds + 1 ∈ (dkA F).fa) from fun h1 => absurd ((hF 1 (by omega)).1 h1) (by decide))] at hh
  obtain ⟨v, hv⟩ := hh.2.1
  exact ⟨hh.1, ⟨_, v, hv, hF.next⟩, hh.2.2⟩
set_option maxRecDepth 100000 in
theorem dv_app2 (h : DkAt B w l mf ms (dkB F v 1)) (hF : Flt2 2 F) (g : Nat) (hg : BlkAt w g (pageC 2)) :
    Calls Try.prog 10 #[.pointer (some ⟨l, 0, none⟩), .int .i64 1, .slice (some ⟨g, 0, none⟩) 256 256] w fun e w' => e = .returned (.int .i64 50) ∧ (∃ F', DkAt B w' l mf ms (dkB F' v 2) ∧ Flt2 3 F') ∧ Dg B w w' := by
  refine (app_page h 1 2 g hg (by decide) (by simp only [dkB]; omega) (by simp only [dkB]; omega)).mono ?_
  intro e w' hh
  unfold AppEnd at hh
  rw [if_neg (fun hh => hh (pageC_len _)), if_neg (fun hh => Bool.noConfusion hh), if_neg (show ¬ ((dkB F v 1).room ≤ (dkB F v 1).us) from (by decide : ¬ ((2 : Int) ≤ 1))), if_pos (show (dkB F v 1).deeds + 1 ∈ (dkB F v 1).fa from (hF 2 (by omega)).2 rfl)] at hh
  exact ⟨hh.1, ⟨_, hh.2.1, hF.next⟩, hh.2.2⟩
set_option maxRecDepth 100000 in
theorem dv_app3 (h : DkAt B w l mf ms (dkB F v 2)) (hF : Flt2 3 F) (g : Nat) (hg : BlkAt w g (pageC 3)) :
    Calls Try.prog 10 #[.pointer (some ⟨l, 0, none⟩), .int .i64 1, .slice (some ⟨g, 0, none⟩) 256 256] w fun e w' => e = .returned (.int .i64 0) ∧ (∃ F' v', DkAt B w' l mf ms (dkC F' v' 3 0) ∧ Flt2 4 F') ∧ Dg B w w' := by
  refine (app_page h 1 3 g hg (by decide) (by simp only [dkB]; omega) (by simp only [dkB]; omega)).mono ?_
  intro e w' hh
  unfold AppEnd at hh
  rw [if_neg (fun hh => hh (pageC_len _)), if_neg (fun hh => Bool.noConfusion hh), if_neg (show ¬ ((dkB F v 2).room ≤ (dkB F v 2).us) from (by decide : ¬ ((2 : Int) ≤ 1))), if_neg (show ¬ ((dkB F v 2).deeds + 1 ∈ (dkB F v 2).fa) from fun h1 => absurd ((hF 3 (by omega)).1 h1) (by decide))] at hh
  obtain ⟨v, hv⟩ := hh.2.1
  exact ⟨hh.1, ⟨_, v, hv, hF.next⟩, hh.2.2⟩
set_option maxRecDepth 100000 in
theorem dv_app4 (h : DkAt B w l mf ms (dkC F v 3 0)) (g : Nat) (hg : BlkAt w g (pageC 4)) :
    Calls Try.prog 10 #[.pointer (some ⟨l, 0, none⟩), .int .i64 1, .slice (some ⟨g, 0, none⟩) 256 256] w fun e w' => e = .returned (.int .i64 2) ∧ DkAt B w' l mf ms (dkC F v 3 0) ∧ Dg B w w' := by
  refine (app_page h 1 4 g hg (by decide) (by simp only [dkC]; omega) (by simp only [dkC]; omega)).mono ?_
  intro e w' hh
  unfold AppEnd at hh
  rw [if_neg (fun hh => hh (pageC_len _)), if_neg (fun hh => Bool.noConfusion hh), if_pos (show (dkC F v 3 0).room ≤ (dkC F v 3 0).us from (by decide : (2 : Int) ≤ 2))] at hh
  exact ⟨hh.1, hh.2.2, hh.2.1⟩
theorem dv_read (h : DkAt B w l mf ms (dkC F v 3 0)) (hF : Flt2 4 F) :
    Calls Try.prog 12 #[.pointer (some ⟨l, 0, none⟩), .int .i64 1, .int .i64 1] w fun e w' => (∃ g, e = .returned (.tuple #[.slice (some ⟨g, 0, none⟩) 256 256, .int .i64 0]) ∧ w.heap.size ≤ g ∧ PageAt w' g (pageC 3)) ∧ (∃ F', DkAt B w' l mf ms (dkC F' v 4 1)) ∧ Dg B w w' := by
  refine (read_any B l mf ms _ 1 1 w h (by decide) (by simp only [dkC]; omega) (by simp only [dkC]; omega)).mono ?_
  intro e w' hh
  unfold ReadEnd at hh
  rw [if_neg (show ¬ ((1 : Int) < 0 ∨ ((pagesOf (dkC F v 3 0) 1).length : Int) ≤ 1) from (by decide : ¬ ((1 : Int) < 0 ∨ ((2 : Nat) : Int) ≤ 1))), if_neg (show ¬ ((dkC F v 3 0).deeds + 1 ∈ (dkC F v 3 0).fa) from fun h1 => absurd ((hF 4 (by omega)).1 h1) (by decide))] at hh
  obtain ⟨g, p, hp, he, hge, hpg, hd, hdg⟩ := hh
  have : p = pageC 3 := by
    have e : (pagesOf (dkC F v 3 0) 1)[(1 : Int).toNat]? = some (pageC 3) := rfl
    rw [e] at hp
    exact (Option.some.inj hp).symm
  subst this
  exact ⟨⟨g, he, hge, hpg⟩, ⟨_, hd⟩, hdg⟩
theorem dv_size (h : DkAt B w l mf ms (dkC F v 4 1)) :
    Calls Try.prog 13 #[.pointer (some ⟨l, 0, none⟩), .int .i64 1] w fun e w' => e = .returned (.tuple #[.int .i64 2, .int .i64 0]) ∧ w = w' :=
  size_any B l mf ms _ 1 w h.toDkRaw (by decide)
theorem dv_delete (h : DkAt B w l mf ms (dkC F v 4 1)) :
    Calls Try.prog 15 #[.pointer (some ⟨l, 0, none⟩), .int .i64 1] w fun e w' => e = .returned (.int .i64 0) ∧ DkAt B w' l mf ms (dkD F) ∧ Dg B w w' ∧ ∀ k, k < w.heap.size → k ≠ l → k ≠ ms → w'.heap[k]? = w.heap[k]? :=
  (delete_any B l mf ms _ 1 w h (by decide)).mono fun _ _ hh => hh
theorem dv_create2 (h : DkAt B w l mf ms (dkD F)) :
    Calls Try.prog 9 #[.pointer (some ⟨l, 0, none⟩)] w fun e w' => e = .returned (.tuple #[.int .i64 2, .int .i64 0]) ∧ DkAt B w' l mf ms (dkE F) ∧ Dg B w w' ∧ ∀ k, k < w.heap.size → k ≠ l → k ≠ ms → w'.heap[k]? = w.heap[k]? := by
  refine (create_any B l mf ms _ w h (by simp only [dkD]; omega)).mono ?_
  intro e w' hh
  unfold CreateEnd at hh
  rw [if_neg (show ¬ (32768 ≤ (dkD F).fs.length) from (by decide : ¬ (32768 ≤ 0)))] at hh
  exact hh
end
theorem dv_new (g : Nat) (w : World) (hA : w.cell? ⟨g, 0, none⟩ = some (.int .i64 2)) :
    Calls Try.prog 5 #[.int .i64 2, .slice (some ⟨g, 0, none⟩) 1 1] w fun e w' => (∃ l mf ms F, e = .returned (.tuple #[.pointer (some ⟨l, 0, none⟩), .int .i64 0]) ∧ DkAt w.heap.size w' l mf ms (dkNew 2 F) ∧ Flt2 1 F) ∧ Below w.heap.size w w' := by
  refine (newD_any 2 (some ⟨g, 0, none⟩) 1 [2] w (.inr ⟨g, 0, rfl, World.block_lt_of_cell? w _ hA, fun i v hv => ?_⟩) (by simp; decide) (by simp [maxLen])).mono ?_
  · match i, hv with
    | 0, hv => simp at hv; subst hv; exact hA
    | i + 1, hv => simp at hv
  · intro e w' hh
    obtain ⟨hb, hh⟩ := hh
    rw [if_pos (by decide)] at hh
    obtain ⟨l, mf, ms, he, F, hd, hF, _⟩ := hh
    exact ⟨⟨l, mf, ms, F, he, hd, fun n hn => by rw [hF]; simp; omega⟩, hb⟩
theorem dv_new2 (w : World) :
    Calls Try.prog 5 #[.int .i64 (-1), .slice none 0 0] w fun e w' => e = .returned (.tuple #[.pointer none, .int .i64 1]) ∧ Below w.heap.size w w' := by
  refine (newD_any (-1) none 0 [] w (.inl rfl) (by simp) (by simp)).mono ?_
  intro e w' hh
  obtain ⟨hb, hh⟩ := hh
  rw [if_neg (by decide)] at hh
  exact ⟨hh, hb⟩
end Go.Proofs.Ythimgldohhaimab
