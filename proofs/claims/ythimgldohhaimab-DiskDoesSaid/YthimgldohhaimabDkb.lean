/-
  Package disk: Files.
-/
import Derived.Test.YthimgldohhaimabDka
import Derived.Test.YthimgldohhaimabIsort
import Derived.Shelf.Sort.Plain
import Derived.Shelf.Slices.In.SortNone
import Derived.Sort.OwnSortedInts
namespace Go.Proofs.Ythimgldohhaimab
open Go.RowKit Go.Maps Go.Sort

theorem sortD_any (base : Nat) (v : Value) (xs : List Int) (w : World) (h : w.ownsRow base 3 1 v xs.length (xs.map (Value.int .i64))) (hl : xs.length ≤ 100000) :
    Calls Try.prog 25 #[v] w fun e w' => e = .returned (.tuple #[]) ∧ (∃ ys : List Int, ys.Perm xs ∧ ys.Pairwise (fun x y => x ≤ y) ∧ w'.ownsRow base 3 1 v xs.length (ys.map (Value.int .i64))) ∧ w.grownBy w' v.ownBlock := by
  rcases h.2 with ⟨rfl, h0⟩ | ⟨g, cap, cur, rfl, hb, hg, hn, hcap, hsz, ht⟩
  · have hx : xs = [] := List.eq_nil_of_length_eq_zero h0
    subst hx
    refine (Any.slices_Sort_int_none Try.isort none 0 w).mono ?_
    rintro e w' ⟨rfl, rfl⟩
    exact ⟨rfl, ⟨[], List.Perm.refl _, List.Pairwise.nil, h⟩, ⟨rfl, rfl, rfl, Nat.le_refl _, fun _ _ _ => rfl⟩⟩
  · rw [Nat.mul_one] at ht
    refine (Any.slices_Sort_int Try.isort g 0 cap xs w (holds_of_blockI hg ht) (block_ltD hg) (by omega)).mono ?_
    rintro e w' ⟨rfl, n, os, rfl⟩
    exact ⟨rfl, ⟨xs.mergeSort fun x y => decide (x ≤ y), List.mergeSort_perm _ _, (List.pairwise_mergeSort (le := fun x y : Int => decide (x ≤ y)) (fun a b c h1 h2 => by simp at h1 h2 ⊢; omega) (fun a b => by simp; omega) xs).imp (fun h => by simpa using h), ownsRow_sortedI (List.length_mergeSort _) hb hg hn hcap hsz⟩, grownBy_sortedI _⟩
/-- The numbers that are behind. -/
def seenV (L : List (Int × Value)) (left : Int → Bool) : List Int := (L.filter fun a => !left a.1).map Prod.fst
theorem seenV_start (L : List (Int × Value)) : seenV L (fun n => (vOf L n).isSome) = [] := by
  unfold seenV
  have : L.filter (fun a => !(vOf L a.1).isSome) = [] := by
    rw [List.filter_eq_nil_iff]
    intro a ha
    have : (vOf L a.1).isSome = true := by
      unfold vOf
      rw [Option.isSome_map, List.find?_isSome]
      exact ⟨a, ha, by simp⟩
    simp [this]
  rw [this]; rfl
theorem seenV_end (L : List (Int × Value)) (left : Int → Bool) (h : ∀ n, left n = false) : seenV L left = L.map Prod.fst := by
  unfold seenV
  rw [List.filter_eq_self.2 (fun a _ => by simp [h])]
theorem seenV_le (L : List (Int × Value)) (left : Int → Bool) : (seenV L left).length ≤ L.length := by
  unfold seenV
  rw [List.length_map]
  exact List.length_filter_le _ _
theorem seenV_other (L : List (Int × Value)) (left : Int → Bool) (n : Int) (hn : n ∉ L.map Prod.fst) : seenV L (fun k => left k && k != n) = seenV L left := by
  unfold seenV
  congr 1
  apply List.filter_congr
  intro a ha
  have : (a.1 != n) = true := by
    rw [bne_iff_ne]
    intro e
    exact hn (e ▸ List.mem_map_of_mem ha)
  simp [this]
theorem seenV_cons (a : Int × Value) (L : List (Int × Value)) (left : Int → Bool) : seenV (a :: L) left = (if left a.1 then [] else [a.1]) ++ seenV L left := by
  unfold seenV
  cases h : left a.1 <;> simp [h]
theorem seenV_step (L : List (Int × Value)) (left : Int → Bool) (n : Int) (hx : (vOf L n).isSome = true) (hl : left n = true) (hnd : (L.map Prod.fst).Nodup) : (seenV L (fun k => left k && k != n)).Perm (seenV L left ++ [n]) := by
  induction L with
  | nil => cases hx
  | cons a L ih =>
    rw [List.map_cons, List.nodup_cons] at hnd
    rw [vOf_cons] at hx
    rw [seenV_cons, seenV_cons]
    by_cases e : a.1 = n
    · rw [seenV_other L left n (by rw [← e]; exact hnd.1), e, hl]
      simp
      exact (List.perm_append_singleton n (seenV L left)).symm
    · rw [if_neg e] at hx
      have e3 : (a.1 != n) = true := by rw [bne_iff_ne]; exact e
      rw [e3, Bool.and_true, List.append_assoc]
      exact (ih hx hnd.2).append_left _
theorem RngV.ne_cells {w : World} {m r : Nat} {L : List (Int × Value)} {left : Int → Bool} {cnt : Nat} (h : RngV w m r L left cnt) {k : Nat} {cs : Array Value} {t : TypeId} {fr : Nat × Nat} (hk : w.heap[k]? = some (.cells cs t fr)) : k ≠ m ∧ k ≠ r := by
  obtain ⟨D, leftL, ⟨es, clock, since, seen, c0, hb, F, hs, hD, hr, rest⟩, h3⟩ := h
  exact ⟨fun e => (by rw [e, hb] at hk; cases hk), fun e => (by rw [e, hr] at hk; cases hk)⟩
theorem own_cells {w : World} {B : Nat} {e : TypeId} {v : Value} {n size : Nat} {xs : List Value} (h : w.ownsRow B e size v n xs) {k : Nat} (hk : v.ownBlock = some k) : ∃ cs, w.heap[k]? = some (.cells cs e (0, 0)) := by
  rcases h.2 with ⟨rfl, _⟩ | ⟨g, cap, cur, rfl, hb, hgg, _⟩
  · cases hk
  · simp [Value.ownBlock] at hk
    subst hk
    exact ⟨cur, hgg⟩
theorem info_intD : (Try.prog.info? 3).map (fun i => (i.zero, i.size, i.bytes)) = some (some (.int .i64 0), 1, 8) := by kernel_rfl
def FilesEnd (w : World) (d : Dk) (e : Ending) (w' : World) : Prop :=
  (∃ (v : Value) (ys : List Int), e = .returned v ∧ ys.Perm (d.fs.map Fl.n) ∧ ys.Pairwise (fun x y => x ≤ y) ∧ w'.ownsRow w.heap.size 3 1 v ys.length (ys.map (Value.int .i64))) ∧ Below w.heap.size w w'
set_option maxRecDepth 100000 in
set_option maxHeartbeats 4000000 in
theorem files_any (B l mf ms : Nat) (d : Dk) (w : World) (h : DkAt B w l mf ms d) :
    Calls Try.prog 17 #[.pointer (some ⟨l, 0, none⟩)] w (FilesEnd w d) := by
  obtain ⟨i0, hi, hz0, hz1, hz2⟩ := info_parts info_intD
  have c2 := h.c2
  have HC := Lib.hid (dclosed_no l ms w c2)
  have hlen := fun ty => h.fls.len Try.underlying51 ty
  have hfl : d.fls.length ≤ 32768 := by simp [Dk.fls]; exact h.sane.len
  obtain ⟨N, hN⟩ : ∃ N, N = d.fls.length := ⟨_, rfl⟩
  rw [← hN] at hlen hfl
  obtain ⟨w1, hmk, hown, hgr⟩ := run_make_own (P := Try.prog) w w.heap.size 22 3 i0 (.int .i64 0) 1 Try.underlying22 hi hz0 hz1 .i64 .i64 N (by rw [hz2]; omega) (by simp [maxLen]; omega) (Nat.le_refl _)
  have hb1 := (Below.refl w.heap.size w).grown hgr (Nat.le_refl _) (fun k hk => by cases hk)
  have HD1 := Lib.hid (h.kept hb1)
  have HB1 := Lib.hid hb1
  have HO1 := Lib.hid hown
  have HN := Lib.hid hN
  have x2 := HD1.out.c2
  have HP := Lib.hid (show d.fls.map Prod.fst = d.fs.map Fl.n from fst_fls d.fs)
  clear h hown hgr hb1 hN
  go_enter Try.func17, Try.ntmps17
  go_wp2_with fail
  refine HC.out.mono ?_
  rintro e w2 ⟨rfl, rfl⟩
  go_wp2_with (at_range; refine wpList_rangeV rfl _ Try.underlying51 rfl ms d.fls w1 rfl HD1.out.fls ?_; intro w0 hrg0 hg0 hs0)
  go_frame
  have HO0 := Lib.hid (HO1.out.kept hg0 (by
    cases hv : Value.ownBlock (.slice (some ⟨w.heap.size, 0, none⟩) 0 N) with
    | none => exact .inl rfl
    | some k => exact .inr (by simp)))
  have HB0 := Lib.hid (HB1.out.grown hg0 HB1.out.size (fun k hk => by cases hk))
  have HR0 := Lib.hid hrg0
  obtain ⟨R, hR⟩ : ∃ R, R = w1.heap.size := ⟨_, rfl⟩
  rw [← hR] at HR0 ⊢
  have HRr := Lib.hid hR
  have HNd := Lib.hid (show (d.fls.map Prod.fst).Nodup by rw [HP.out]; exact HD1.out.sane.nums)
  have HRs := Lib.hid (show w.heap.size ≤ R by rw [hR]; exact HB1.out.size)
  clear hrg0 hg0 hs0 hR hmk hlen c2 x2
  go_loopw [3] (fun v wr => ∃ (left : Int → Bool) (cnt : Nat) (xs : List Int), Hid (RngV wr ms R d.fls left cnt) ∧ Hid (wr.ownsRow w.heap.size 3 1 v xs.length (xs.map (Value.int .i64))) ∧ Hid (xs.Perm (seenV d.fls left)) ∧ Hid (Below w.heap.size w wr)) (fun _ wr => wr.rangeLeft ms R)
  case atStart => exact ⟨_, _, [], HR0, HO0, Lib.hid (by rw [seenV_start]), HB0⟩
  case round =>
    obtain ⟨left, cnt, xs, HR, HO, HX, HB⟩ := hrel
    clear HR0 HO0 HB0 HO1 HB1
    have hxl : xs.length ≤ 32768 := by rw [HX.out.length_eq]; have := seenV_le d.fls left; have := HN.out; omega
    go_wp2_with (at_next; refine wpList_nextV rfl _ rfl ms R d.fls left cnt _ rfl HR.out ?_ ?_)
    · intro hl0
      have HXe := Lib.hid (show xs.Perm (d.fs.map Fl.n) by rw [← HP.out, ← seenV_end d.fls left hl0]; exact HX.out)
      have HSt := Lib.hid (sortD_any _ _ xs _ HO.out (by omega))
      clear hl0
      go_wp2_with fail
      refine HSt.out.mono ?_
      rintro e w3 ⟨rfl, ⟨ys, hy1, hy2, hy3⟩, hg⟩
      have HY := Lib.hid (And.intro hy1 (And.intro hy2 hy3))
      have HB3 := Lib.hid (HB.out.grown hg HB.out.size (fun k hk => (HO.out.lt k hk).1))
      clear hy1 hy2 hy3 hg
      go_wp2_with fail
      go_ret
      obtain ⟨y1, y2, y3⟩ := HY.out
      rw [← y1.length_eq] at y3
      exact ⟨⟨_, ys, rfl, y1.trans HXe.out, y2, y3⟩, HB3.out⟩
    · intro n v w3 cnt1 hx hwn hlx hrg1 hlt1 hg1 hs1 hen
      have hne := fun k hk => HR.out.ne_cells (own_cells HO.out (k := k) hk).choose_spec
      have HO3 := Lib.hid (HO.out.kept hg1 (by
        refine Classical.or_iff_not_imp_left.2 (fun hh hk => ?_)
        exact (hne R hk).2 rfl))
      have hne3 := fun k hk => hrg1.ne_cells (own_cells HO3.out (k := k) hk).choose_spec
      have HNe := Lib.hid hne3
      have HRg := Lib.hid hrg1
      have HLt := Lib.hid hlt1
      have HS := Lib.hid (seenV_step d.fls left n (by rw [hx]; rfl) hlx HNd.out)
      have HB3 := Lib.hid (HB.out.grown hg1 HB.out.size (fun k hk => by cases hk; exact HRs.out))
      clear hx hlx hrg1 hlt1 hg1 hs1 hne hne3 hwn
      go_wp2_with (at_builtin; refine wpList_append_own _ rfl _ _ 22 rfl w.heap.size 3 i0 (.int .i64 0) 1 8 Try.underlying22 hi hz0 hz1 hz2 rfl (by decide) _ _ _ rfl (HO3.out.alloc _) ⟨w3.heap.size, 0, none⟩ 1 1 [.int .i64 n] rfl rfl ?c1 ?c2 ?c3 ?c4 ?c5 ?_)
      case c1 =>
        intro j u hj
        match j, hj with
        | 0, hj => simp at hj; subst hj; simp [Addr.add]
      case c2 => intro u hu; simp at hu; subst hu; rfl
      case c3 => unfold maxLen; omega
      case c4 => omega
      case c5 => have := HB3.out.size; simp; omega
      · intro v' w5 hown' hg5 _
        have hbA := ba w3 (.cells #[.int .i64 n] 3)
        have HR5 := Lib.hid ((HRg.out.kept (hbA.block ms HRg.out.lt.1) (hbA.block R HRg.out.lt.2.1)).kept (hg5.block ms (by have := HRg.out.lt.1; simp; omega) (fun e => (HNe.out ms e.symm).1 rfl)) (hg5.block R (by have := HRg.out.lt.2.1; simp; omega) (fun e => (HNe.out R e.symm).2 rfl)))
        have HB5 := Lib.hid ((bt HB3.out hbA).grown hg5 (by have := HB3.out.size; simp; omega) (fun k hk => (HO3.out.lt k hk).1))
        have HO5 := Lib.hid (show w5.ownsRow w.heap.size 3 1 v' (xs ++ [n]).length ((xs ++ [n]).map (Value.int .i64)) by rw [List.length_append, List.map_append]; exact hown')
        have HX5 := Lib.hid (show (xs ++ [n]).Perm (seenV d.fls fun k => left k && k != n) from (HX.out.append_right [n]).trans HS.out.symm)
        clear hbA hown' hg5 hen
        go_wp2_with fail
        go_roundw
        case rel => exact ⟨_, cnt1, xs ++ [n], HR5, HO5, HX5, HB5⟩
        case measure => rw [HR5.out.left_eq, HR.out.left_eq]; exact HLt.out
set_option maxRecDepth 100000 in
set_option maxHeartbeats 1000000 in
theorem files_nil (w : World) :
    Calls Try.prog 17 #[.pointer none] w fun e w' => e = .returned (.slice none 0 0) ∧ w = w' := by
  have HC := Lib.hid (dclosed_nil w)
  go_enter Try.func17, Try.ntmps17
  go_wp2_with fail
  refine HC.out.mono ?_
  rintro e w1 ⟨rfl, rfl⟩
  go_wp2_with fail
  go_ret
  exact ⟨rfl, rfl⟩
end Go.Proofs.Ythimgldohhaimab
