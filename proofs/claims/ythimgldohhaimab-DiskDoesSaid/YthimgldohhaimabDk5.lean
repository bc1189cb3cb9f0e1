/-
  Package disk: pages in memory; Read.
-/
import Derived.Test.YthimgldohhaimabDk4
import Derived.Deep.MidRow
import Derived.Deep.WholeRow
namespace Go.Proofs.Ythimgldohhaimab
open Go.RowKit Go.Maps

theorem cellsP_cons (p : List Int) (ps : List (List Int)) : cellsP (p :: ps) = p.map (Value.int .u8) ++ cellsP ps := rfl
theorem cellsP_at : ∀ (ps : List (List Int)) (_ : ∀ p ∈ ps, p.length = 256) (i : Nat) (p : List Int) (_ : ps[i]? = some p) (j : Nat) (_ : j < 256), (cellsP ps)[i * 256 + j]? = (p.map (Value.int .u8))[j]?
  | [], _, i, p, hp, j, hj => by simp at hp
  | q :: ps, h, 0, p, hp, j, hj => by
    simp at hp
    subst hp
    have hq := h q (by simp)
    rw [cellsP_cons, Nat.zero_mul, Nat.zero_add, List.getElem?_append_left (by simp; omega)]
  | q :: ps, h, i + 1, p, hp, j, hj => by
    have hq := h q (by simp)
    rw [List.getElem?_cons_succ] at hp
    have ih := cellsP_at ps (fun r hr => h r (by simp [hr])) i p hp j hj
    have e : (i + 1) * 256 + j - 256 = i * 256 + j := by omega
    rw [cellsP_cons, List.getElem?_append_right (by rw [List.length_map, hq]; omega), List.length_map, hq, e, ih]
theorem cellsP_len : ∀ (ps : List (List Int)) (_ : ∀ p ∈ ps, p.length = 256), (cellsP ps).length = ps.length * 256
  | [], _ => rfl
  | q :: ps, h => by
    rw [cellsP_cons, List.length_append, cellsP_len ps (fun r hr => h r (by simp [hr])), List.length_map, h q (by simp), List.length_cons]
    omega
theorem page_range {B : Nat} {w : World} {g n cap : Nat} {ps : List (List Int)} (h : PgsAt B w (.slice (some ⟨g, 0, none⟩) n cap) ps) (hl : ∀ p ∈ ps, p.length = 256) {i : Nat} {p : List Int} (hp : ps[i]? = some p) : w.rangeAt g (i * 256) (p.map (Value.int .u8)) := by
  intro j v hv
  have hi := (List.getElem?_eq_some_iff.1 hp).1
  have hpl := hl p (List.mem_of_getElem? hp)
  have hj : j < 256 := by
    have := (List.getElem?_eq_some_iff.1 hv).1
    simp at this
    omega
  rcases h.2 with ⟨hv', hn⟩ | ⟨g', cap', cur, hv', hb, hg, _, _, _, ht⟩
  · cases hv'
  · injection hv' with h1 h2 h3
    injection h1 with h1
    injection h1 with h1
    subst h1
    have hu := cellsP_at ps hl i p hp j hj
    rw [hv, ← ht, List.getElem?_take_of_lt (by omega), Array.getElem?_toList] at hu
    simp [World.cell?, hg, hu]
def Dk.read (d : Dk) : Dk := { d with rd := d.rd + 1 }
theorem Sd.read {d : Dk} (h : Sd d) : Sd d.read := ⟨h.room, h.fnod, h.flen, h.nums, h.num, h.len, h.apart, h.pages, h.used, h.most, h.peak, h.pos.1, h.pos.2.1, by have := h.pos.2.2.1; show 0 ≤ d.rd + 1; omega, h.pos.2.2.2⟩
def pagesOf (d : Dk) (n : Int) : List (List Int) := match flOf d.fs n with | some f => f.ps | none => []
/-- Block g is a page of these bytes, that lies alone. -/
def PageAt (w : World) (g : Nat) (p : List Int) : Prop := w.heap[g]? = some (.cells (p.map (Value.int .u8)).toArray 66 (0, 0))
def ReadEnd (B : Nat) (w : World) (l mf ms : Nat) (d : Dk) (n i : Int) (e : Ending) (w' : World) : Prop :=
  if i < 0 ∨ (pagesOf d n).length ≤ i then e = .returned (.tuple #[.slice none 0 0, .int .i64 4]) ∧ w' = w
  else if d.deeds + 1 ∈ d.fa then e = .returned (.tuple #[.slice none 0 0, .int .i64 50]) ∧ DkAt B w' l mf ms d.deed ∧ Dg B w w'
  else ∃ g p, (pagesOf d n)[i.toNat]? = some p ∧ e = .returned (.tuple #[.slice (some ⟨g, 0, none⟩) 256 256, .int .i64 0]) ∧ w.heap.size ≤ g ∧ PageAt w' g p ∧ DkAt B w' l mf ms d.deed.read ∧ Dg B w w'
theorem info_page : (Try.prog.info? 66).map (fun i => (i.zero, i.size)) = some (some (.agg (Array.replicate 256 (.int .u8 0))), 256) := by kernel_rfl
set_option maxRecDepth 100000 in
set_option maxHeartbeats 4000000 in
theorem read_any (B l mf ms : Nat) (d : Dk) (n i : Int) (w : World) (h : DkAt B w l mf ms d) (hw : (Lit.int .i64 n).wf = true) (hd : d.deeds < 1000000000000) (hr : d.rd < 1000000000000) :
    Calls Try.prog 12 #[.pointer (some ⟨l, 0, none⟩), .int .i64 n, .int .i64 i] w (ReadEnd B w l mf ms d n i) := by
  have c2 := h.c2
  have HC := Lib.hid (dclosed_no l ms w c2)
  have hlk := h.fls.look hw Try.underlying51 (zeroS w) false
  rw [show vOf d.fls n = _ from vOf_fls d.fs n] at hlk
  simp only [if_false, Bool.false_eq_true] at hlk
  have hps : ∃ A c, ((flOf d.fs n).map Fl.v).getD (.slice none 0 0) = .slice A (pagesOf d n).length c ∧ (∀ W d', DkRaw B W l mf ms d' → d'.fs = d.fs → PgsAt B W (.slice A (pagesOf d n).length c) (pagesOf d n)) ∧ (∀ p ∈ pagesOf d n, p.length = 256) := by
    unfold pagesOf
    cases hf : flOf d.fs n with
    | none => exact ⟨none, 0, rfl, fun W _ _ _ => World.ownsRow_nil _ _ _ _, by simp⟩
    | some f =>
      have hm := (flOf_mem hf).1
      obtain ⟨A, c, hv⟩ := pgs_shape (h.pgs f hm)
      refine ⟨A, c, hv, fun W d' hW he => ?_, h.sane.pages f hm⟩
      simp only
      rw [← hv]
      exact hW.pgs f (by rw [he]; exact hm)
  obtain ⟨A, c, hsl, hpg, hpl⟩ := hps
  rw [hsl] at hlk
  have HP := Lib.hid hpg
  have HPL := Lib.hid hpl
  have HD := Lib.hid h
  have hlen : ((pagesOf d n).length : Int) ≤ 16384 := by
    unfold pagesOf
    cases hf : flOf d.fs n with
    | none => simp
    | some f =>
      have := sum_mem (flOf_mem hf).1
      rw [← h.sane.used] at this
      have := h.sane.most
      have := h.sane.room
      simp only
      omega
  obtain ⟨N, hN⟩ : ∃ N, N = (pagesOf d n).length := ⟨_, rfl⟩
  rw [← hN] at hlk hlen HP
  have HN := Lib.hid hN
  clear h hsl hpg hpl hN
  by_cases h0 : i < 0
  · have HE := Lib.hid (show i < 0 ∨ ((pagesOf d n).length : Int) ≤ i from .inl h0)
    go_enter Try.func12, Try.ntmps12
    go_wp2_with fail
    refine HC.out.mono ?_
    rintro e w1 ⟨rfl, rfl⟩
    go_wp2_with fail
    go_ret2
    unfold ReadEnd
    rw [if_pos HE.out]
    exact ⟨rfl, rfl⟩
  · by_cases h1 : (N : Int) ≤ i
    · have HE := Lib.hid (show i < 0 ∨ ((pagesOf d n).length : Int) ≤ i from .inr (by rw [← HN.out]; exact h1))
      go_enter Try.func12, Try.ntmps12
      go_wp2_with fail
      refine HC.out.mono ?_
      rintro e w1 ⟨rfl, rfl⟩
      go_wp2_with fail
      go_ret2
      unfold ReadEnd
      rw [if_pos HE.out]
      exact ⟨rfl, rfl⟩
    · obtain ⟨j, rfl⟩ : ∃ j : Nat, i = j := ⟨i.toNat, by omega⟩
      have HE := Lib.hid (show ¬ ((j : Int) < 0 ∨ ((pagesOf d n).length : Int) ≤ j) from fun hh => by rw [← HN.out] at hh; omega)
      have hjN : (j : Int) < (N : Int) := by omega
      have hjN' : j < N := by omega
      have HDe := Lib.hid (deed_any B l mf ms d w HD.out hd)
      clear h0 h1
      go_enter Try.func12, Try.ntmps12
      go_wp2_with fail
      refine HC.out.mono ?_
      rintro e w1 ⟨rfl, rfl⟩
      go_wp2_with fail
      refine HDe.out.mono ?_
      rintro e w1 ⟨rfl, hd1, hg1⟩
      have HD1 := Lib.hid hd1
      have HG1 := Lib.hid hg1
      clear hd1 hg1 c2 hlk
      by_cases hm : d.deeds + 1 ∈ d.fa
      · have HM := Lib.hid hm
        rw [if_pos hm]
        clear hm
        go_wp2_with fail
        go_ret2
        unfold ReadEnd
        rw [if_neg HE.out, if_pos HM.out]
        exact ⟨rfl, HD1.out, HG1.out⟩
      · have HM := Lib.hid hm
        rw [if_neg hm]
        have c5 := HD1.out.c5
        have f5 := HD1.out.fz 5
        have hrd : d.deed.rd = d.rd := rfl
        rw [hrd] at c5
        have hr0 := HD.out.sane.pos.2.2.1
        have HS := Lib.hid (HD1.out.set (d' := d.deed.read) (i := 5) (x := d.rd + 1) (by rfl) rfl rfl HD1.out.sane.read)
        clear hm hrd
        go_upto_region 9 with fail
        generalize w1.setCell ⟨l, 5, none⟩ (.int .i64 (d.rd + 1)) = W at HS ⊢
        clear c5 f5
        obtain ⟨p, hp⟩ : ∃ p, (pagesOf d n)[j]? = some p := ⟨_, List.getElem?_eq_getElem (by rw [← HN.out]; exact hjN')⟩
        have hp256 := HPL.out p (List.mem_of_getElem? hp)
        have hpw : PgsAt B W (.slice A N c) (pagesOf d n) := HP.out W _ HS.out.1.toDkRaw rfl
        obtain ⟨b, hA⟩ : ∃ b, A = some ⟨b, 0, none⟩ := by
          rcases hpw.2 with ⟨hv, hn⟩ | ⟨g, cap, cur, hv, _⟩
          · rw [← HN.out] at hn; omega
          · injection hv with hv; exact ⟨g, hv⟩
        subst hA
        have hrg := page_range hpw HPL.out hp
        have hzp := (zero_of_info info_page).1
        have HPp := Lib.hid hp
        have Hpl := Lib.hid hp256
        clear hpw hp hp256
        have hsz := (zero_of_info info_page).2
        obtain ⟨zs, hz⟩ : ∃ zs, zs = Array.replicate 256 (Value.int .u8 0) := ⟨_, rfl⟩
        rw [← hz] at hzp
        have hzs : zs.size = 256 := by rw [hz]; simp
        clear hz
        have hcs : zs.size = (p.map (Value.int .u8)).toArray.size ∧ (Try.prog.info? 66).map (·.size) = some (p.map (Value.int .u8)).toArray.size ∧ (p.map (Value.int .u8)).toArray.all (·.oneCell') = true := ⟨by rw [hzs]; simp [Hpl.out], by rw [List.size_toArray, List.length_map, Hpl.out]; exact (zero_of_info info_page).2, all_oneCell_toArray (fun v hv => by obtain ⟨x, _, rfl⟩ := List.mem_map.1 hv; rfl)⟩
        have hb0 : (W.alloc (.cells zs 66)).heap[W.heap.size]? = some (.cells zs 66 (0, 0)) := (MapKept.heap_alloc W _).1
        have hlm : (Try.prog.info? 66).map (·.size) = some (p.map (Value.int .u8)).length := by rw [List.length_map, Hpl.out]; exact hsz
        clear hsz
        go_wp2_with (first
          | (refine wpList_load_mid rfl 66 _ rfl b (j * 256) rfl (p.map (Value.int .u8)) _ hrg Try.underlying66 rfl hlm ?_)
          | (refine wpList_store_row rfl 66 _ _ rfl W.heap.size (p.map (Value.int .u8)).toArray rfl rfl 66 zs hb0 hcs.2.1 hcs.1 hcs.2.2 ?_; rw [World.setRow_alloc_new]))
        go_ret2
        have hb1 := ba W (.cells (p.map (Value.int .u8)).toArray 66)
        unfold ReadEnd
        rw [if_neg HE.out, if_neg HM.out]
        exact ⟨W.heap.size, p, HPp.out, rfl, (HG1.out.trans HS.out.2).below.size, (MapKept.heap_alloc W _).1, HS.out.1.kept hb1, (HG1.out.trans HS.out.2).trans (Dg.of_below HS.out.1.lt hb1)⟩
set_option maxRecDepth 100000 in
set_option maxHeartbeats 1000000 in
theorem read_nil (n i : Int) (w : World) :
    Calls Try.prog 12 #[.pointer none, .int .i64 n, .int .i64 i] w fun e w' => e = .returned (.tuple #[.slice none 0 0, .int .i64 6]) ∧ w = w' := by
  have HC := Lib.hid (dclosed_nil w)
  go_enter Try.func12, Try.ntmps12
  go_wp2_with fail
  refine HC.out.mono ?_
  rintro e w1 ⟨rfl, rfl⟩
  go_wp2_with fail
  go_ret2
  exact ⟨rfl, rfl⟩
end Go.Proofs.Ythimgldohhaimab
