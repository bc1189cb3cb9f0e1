/-
  Package disk: the calls that DiskKeeps makes.
-/
import Derived.Test.YthimgldohhaimabDke
namespace Go.Proofs.Ythimgldohhaimab
open Go.RowKit Go.Maps Go.Sort

/-- The disk of DiskKeeps: files 1 to 3, as far as they are there; what file k + 1 holds is told by W k. -/
structure KSd (d : Dk) (P : Nat → Prop) (W : Nat → List Int) (u pk cnt : Int) : Prop where
  room : d.room = 16384
  fa : d.fa = []
  us : d.us = u
  peak : d.pk = pk
  deeds : d.deeds ≤ cnt
  wr : d.wr ≤ cnt
  rd : d.rd ≤ cnt
  there : ∀ k : Nat, k < 3 → P k → ∃ f, flOf d.fs (k + 1 : Nat) = some f ∧ f.ps = (W k).map pageC
  gone : ∀ k : Nat, k < 3 → ¬ P k → flOf d.fs (k + 1 : Nat) = none
def KS (B : Nat) (w : World) (l mf ms : Nat) (P : Nat → Prop) (W : Nat → List Int) (u pk cnt : Int) : Prop := ∃ d, DkAt B w l mf ms d ∧ KSd d P W u pk cnt
theorem KS.kept {B : Nat} {w w' : World} {l mf ms : Nat} {P : Nat → Prop} {W : Nat → List Int} {u pk cnt : Int} (h : KS B w l mf ms P W u pk cnt) (hb : Below w.heap.size w w') : KS B w' l mf ms P W u pk cnt := by
  obtain ⟨d, h1, h2⟩ := h
  exact ⟨d, h1.kept hb, h2⟩
theorem KS.lt {B : Nat} {w : World} {l mf ms : Nat} {P : Nat → Prop} {W : Nat → List Int} {u pk cnt : Int} (h : KS B w l mf ms P W u pk cnt) : B ≤ w.heap.size := by
  obtain ⟨d, h1, _⟩ := h
  exact h1.lt
/-- The disk with its first j files. -/
def dk3 (j : Nat) : Dk := ⟨16384, [], (List.range j).map fun k => ⟨(k + 1 : Nat), .slice none 0 0, []⟩, j, 0, 0, 0, 0, 0⟩
theorem k_new (w : World) :
    Calls Try.prog 5 #[.int .i64 16384, .slice none 0 0] w fun e w' => (∃ l mf ms, e = .returned (.tuple #[.pointer (some ⟨l, 0, none⟩), .int .i64 0]) ∧ DkAt w.heap.size w' l mf ms (dk3 0)) ∧ Below w.heap.size w w' := by
  refine (fl_new none 0 [] w (.inl rfl) (by simp) (by simp)).mono ?_
  rintro e w' ⟨⟨l, mf, ms, he, F, hd, hF, _⟩, hb⟩
  have : F = [] := List.eq_nil_iff_forall_not_mem.2 (fun n hn => by have := (hF n).1 hn; simp at this)
  subst this
  exact ⟨⟨l, mf, ms, he, hd⟩, hb⟩
theorem k_create {B : Nat} {w : World} {l mf ms j : Nat} (h : DkAt B w l mf ms (dk3 j)) (hj : j < 3) :
    Calls Try.prog 9 #[.pointer (some ⟨l, 0, none⟩)] w fun e w' => e = .returned (.tuple #[.int .i64 ((j + 1 : Nat) : Int), .int .i64 0]) ∧ DkAt B w' l mf ms (dk3 (j + 1)) ∧ Dg B w w' := by
  refine (create_any B l mf ms _ w h (by simp only [dk3]; omega)).mono ?_
  intro e w' hh
  unfold CreateEnd at hh
  rw [if_neg (by simp [dk3]; omega)] at hh
  obtain ⟨he, hd, hg, _⟩ := hh
  refine ⟨he, ?_, hg⟩
  have e1 : (dk3 j).add = dk3 (j + 1) := by
    unfold dk3 Dk.add Dk.newF
    simp [List.range_succ]
  rwa [e1] at hd
theorem k_start {B : Nat} {w : World} {l mf ms : Nat} (h : DkAt B w l mf ms (dk3 3)) : KS B w l mf ms (fun _ => True) (fun _ => []) 0 0 0 := by
  refine ⟨_, h, rfl, rfl, rfl, rfl, Int.le_refl _, Int.le_refl _, Int.le_refl _, fun k hk _ => ?_, fun k _ h => absurd trivial h⟩
  have hc : k = 0 ∨ k = 1 ∨ k = 2 := by omega
  rcases hc with rfl | rfl | rfl <;> exact ⟨_, rfl, rfl⟩
def updW (W : Nat → List Int) (k : Nat) (c : Int) : Nat → List Int := fun j => if j = k then W j ++ [c] else W j
section
variable {B : Nat} {w : World} {l mf ms : Nat} {P : Nat → Prop} {W : Nat → List Int} {u pk cnt : Int}
set_option maxRecDepth 100000 in
theorem ks_append (h : KS B w l mf ms P W u pk cnt) (k : Nat) (hk : k < 3) (hP : P k) (c : Int) (hu : u < 16384) (hc : cnt < 100000000) (g : Nat) (hg : BlkAt w g (pageC c)) :
    Calls Try.prog 10 #[.pointer (some ⟨l, 0, none⟩), .int .i64 ((k + 1 : Nat) : Int), .slice (some ⟨g, 0, none⟩) 256 256] w fun e w' => e = .returned (.int .i64 0) ∧ KS B w' l mf ms P (updW W k c) (u + 1) (max pk (u + 1)) (cnt + 1) ∧ Dg B w w' := by
  obtain ⟨d, hd, hs⟩ := h
  obtain ⟨f, hf, hps⟩ := hs.there k hk hP
  have h1 := hs.deeds
  have h2 := hs.wr
  have h3 := hs.rd
  refine (app_page hd ((k + 1 : Nat) : Int) c g hg (wfI (by omega) (by omega)) (by omega) (by omega)).mono ?_
  intro e w' hh
  unfold AppEnd at hh
  rw [if_neg (fun hh => hh (pageC_len _)), if_neg (by rw [hf]; simp), if_neg (by rw [hs.room, hs.us]; omega), if_neg (by rw [hs.fa]; simp)] at hh
  obtain ⟨he, ⟨v, hv⟩, hdg⟩ := hh
  refine ⟨he, ⟨_, hv, hs.room, ?_, ?_, ?_, ?_, ?_, ?_, fun j hj hPj => ?_, fun j hj hPj => ?_⟩, hdg⟩
  · show d.fa.filter _ = []
    rw [hs.fa]; rfl
  · show d.us + 1 = u + 1; rw [hs.us]
  · show max d.pk (d.us + 1) = max pk (u + 1); rw [hs.us, hs.peak]
  · show d.deeds + 1 ≤ cnt + 1; omega
  · show d.wr + 1 ≤ cnt + 1; omega
  · show d.rd ≤ cnt + 1; omega
  · show ∃ f', flOf (setF d.fs ((k + 1 : Nat) : Int) v (pageC c)) ((j + 1 : Nat) : Int) = some f' ∧ _
    by_cases e1 : j = k
    · subst e1
      refine ⟨_, flOf_setF hf, ?_⟩
      show f.ps ++ [pageC c] = (updW W j c j).map pageC
      unfold updW
      rw [if_pos rfl, hps, List.map_append]
      rfl
    · obtain ⟨f', hf', hps'⟩ := hs.there j hj hPj
      refine ⟨f', ?_, ?_⟩
      · rw [flOf_setF_ne (by omega)]; exact hf'
      · unfold updW; rw [if_neg e1]; exact hps'
  · show flOf (setF d.fs ((k + 1 : Nat) : Int) v (pageC c)) ((j + 1 : Nat) : Int) = none
    rw [flOf_setF_ne (by intro e; exact hPj (by rw [show j = k by omega]; exact hP))]
    exact hs.gone j hj hPj
theorem flOf_filter {fs : List Fl} {n k : Int} : flOf (fs.filter fun g => g.n != n) k = if k = n then none else flOf fs k := by
  induction fs with
  | nil => simp [flOf]
  | cons a fs ih =>
    unfold flOf at ih ⊢
    rw [List.filter_cons]
    by_cases e : a.n = n
    · rw [if_neg (by simp [e]), ih]
      by_cases e2 : k = n
      · rw [if_pos e2, if_pos e2]
      · rw [if_neg e2, if_neg e2, List.find?_cons_of_neg (by simp; omega)]
    · rw [if_pos (by simp [e])]
      by_cases e3 : a.n = k
      · rw [List.find?_cons_of_pos (by simp [e3]), List.find?_cons_of_pos (by simp [e3]), if_neg (by omega)]
      · rw [List.find?_cons_of_neg (by simp [e3]), List.find?_cons_of_neg (by simp [e3]), ih]
theorem ks_delete (h : KS B w l mf ms P W u pk cnt) (k : Nat) (hk : k < 3) (hP : P k) :
    Calls Try.prog 15 #[.pointer (some ⟨l, 0, none⟩), .int .i64 ((k + 1 : Nat) : Int)] w fun e w' => e = .returned (.int .i64 0) ∧ KS B w' l mf ms (fun j => P j ∧ j ≠ k) W (u - (W k).length) pk cnt ∧ Dg B w w' := by
  obtain ⟨d, hd, hs⟩ := h
  obtain ⟨f, hf, hps⟩ := hs.there k hk hP
  refine (delete_any B l mf ms d _ w hd (wfI (by omega) (by omega))).mono ?_
  intro e w' hh
  unfold DelEnd at hh
  rw [hf] at hh
  obtain ⟨he, hv, hdg, _⟩ := hh
  have hn := (flOf_mem hf).2
  refine ⟨he, ⟨_, hv, hs.room, hs.fa, ?_, hs.peak, hs.deeds, hs.wr, hs.rd, fun j hj hPj => ?_, fun j hj hPj => ?_⟩, hdg⟩
  · show d.us - (f.ps.length : Int) = _
    rw [hs.us, hps, List.length_map]
  · show ∃ f', flOf (d.fs.filter fun g => g.n != f.n) ((j + 1 : Nat) : Int) = some f' ∧ _
    rw [flOf_filter, hn, if_neg (by have := hPj.2; omega)]
    exact hs.there j hj hPj.1
  · show flOf (d.fs.filter fun g => g.n != f.n) ((j + 1 : Nat) : Int) = none
    rw [flOf_filter, hn]
    by_cases e1 : j = k
    · rw [if_pos (by rw [e1])]
    · rw [if_neg (by omega)]
      exact hs.gone j hj (fun hp => hPj ⟨hp, e1⟩)
theorem ks_size (h : KS B w l mf ms P W u pk cnt) (k : Nat) (hk : k < 3) (hP : P k) :
    Calls Try.prog 13 #[.pointer (some ⟨l, 0, none⟩), .int .i64 ((k + 1 : Nat) : Int)] w fun e w' => e = .returned (.tuple #[.int .i64 (W k).length, .int .i64 0]) ∧ w = w' := by
  obtain ⟨d, hd, hs⟩ := h
  obtain ⟨f, hf, hps⟩ := hs.there k hk hP
  refine (size_any B l mf ms d _ w hd.toDkRaw (wfI (by omega) (by omega))).mono ?_
  rintro e w' ⟨rfl, rfl⟩
  refine ⟨?_, rfl⟩
  unfold sizeV
  rw [hf]
  simp [hps]
theorem ks_size_gone (h : KS B w l mf ms P W u pk cnt) (k : Nat) (hk : k < 3) (hP : ¬ P k) :
    Calls Try.prog 13 #[.pointer (some ⟨l, 0, none⟩), .int .i64 ((k + 1 : Nat) : Int)] w fun e w' => e = .returned (.tuple #[.int .i64 0, .int .i64 4]) ∧ w = w' := by
  obtain ⟨d, hd, hs⟩ := h
  have hf := hs.gone k hk hP
  refine (size_any B l mf ms d _ w hd.toDkRaw (wfI (by omega) (by omega))).mono ?_
  rintro e w' ⟨rfl, rfl⟩
  refine ⟨?_, rfl⟩
  unfold sizeV
  rw [hf]
theorem ks_read (h : KS B w l mf ms P W u pk cnt) (k : Nat) (hk : k < 3) (hP : P k) (i : Nat) (hi : i < (W k).length) (hc : cnt < 100000000) :
    Calls Try.prog 12 #[.pointer (some ⟨l, 0, none⟩), .int .i64 ((k + 1 : Nat) : Int), .int .i64 i] w fun e w' => (∃ g, e = .returned (.tuple #[.slice (some ⟨g, 0, none⟩) 256 256, .int .i64 0]) ∧ w.heap.size ≤ g ∧ PageAt w' g (pageC (W k)[i])) ∧ KS B w' l mf ms P W u pk (cnt + 1) ∧ Dg B w w' := by
  obtain ⟨d, hd, hs⟩ := h
  obtain ⟨f, hf, hps⟩ := hs.there k hk hP
  have h1 := hs.deeds
  have h2 := hs.wr
  have h3 := hs.rd
  refine (read_any B l mf ms d _ i w hd (wfI (by omega) (by omega)) (by omega) (by omega)).mono ?_
  intro e w' hh
  have hpg : pagesOf d ((k + 1 : Nat) : Int) = (W k).map pageC := by unfold pagesOf; rw [hf]; exact hps
  unfold ReadEnd at hh
  rw [hpg, List.length_map, if_neg (by omega), if_neg (by rw [hs.fa]; simp)] at hh
  obtain ⟨g, p, hp, he, hge, hpa, hd', hdg⟩ := hh
  have hp2 : p = pageC (W k)[i] := by
    rw [Int.toNat_natCast, List.getElem?_map, List.getElem?_eq_getElem hi] at hp
    exact (Option.some.inj hp).symm
  subst hp2
  refine ⟨⟨g, he, hge, hpa⟩, ⟨_, hd', hs.room, ?_, hs.us, hs.peak, ?_, ?_, ?_, hs.there, hs.gone⟩, hdg⟩
  · show d.fa.filter _ = []
    rw [hs.fa]; rfl
  · show d.deeds + 1 ≤ cnt + 1; omega
  · show d.wr ≤ cnt + 1; omega
  · show d.rd + 1 ≤ cnt + 1; omega
theorem ks_meter (h : KS B w l mf ms P W u pk cnt) :
    Calls Try.prog 14 #[.pointer (some ⟨l, 0, none⟩)] w fun e w' => (∃ r s, e = .returned (.agg #[.int .i64 r, .int .i64 s, .int .i64 u, .int .i64 pk])) ∧ Below w.heap.size w w' := by
  obtain ⟨d, hd, hs⟩ := h
  refine (meter_any B l mf ms d w hd).mono ?_
  rintro e w' ⟨rfl, hb⟩
  exact ⟨⟨_, _, by rw [hs.us, hs.peak]⟩, hb⟩
end
theorem field_usedA (a b c d : Int) (w : World) : (Instr.field 45 (.agg #[.int .i64 a, .int .i64 b, .int .i64 c, .int .i64 d]) 2).run Try.prog w = .ok (.int .i64 c) w := by kernel_rfl
theorem field_peakA (a b c d : Int) (w : World) : (Instr.field 45 (.agg #[.int .i64 a, .int .i64 b, .int .i64 c, .int .i64 d]) 3).run Try.prog w = .ok (.int .i64 d) w := by kernel_rfl
end Go.Proofs.Ythimgldohhaimab
