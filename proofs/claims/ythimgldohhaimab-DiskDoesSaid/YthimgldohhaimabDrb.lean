/-
  DiskDoes: one call of both (do): Read.
-/
import Derived.Test.YthimgldohhaimabDra
import Derived.Laws.BytesArg
namespace Go.Proofs.Ythimgldohhaimab
open Go.RowKit Go.Maps Go.Sort

section
variable {B : Nat} {w0 w w' : World} {b l mf ms x : Nat} {k n i : Int} {A : Option Addr} {len c : Nat} {d : Dk} {X : Xd} {j : Int}
/-- Read ends with an error at both. -/
theorem do_3n {r : Int} {d' : Dk} (hd : DkAt B w l mf ms d) (hx : ∃ vF vL, XdAt B w x vF vL X)
    (h1 : ∀ W, Hid (Pd B w W w.heap.size l mf ms x 3 n i A len c d X) → Calls Try.prog 12 #[.pointer (some ⟨l, 0, none⟩), .int .i64 n, .int .i64 i] W fun e w' => e = .returned (.tuple #[.slice none 0 0, .int .i64 r]) ∧ Hid (Pd B w w' w.heap.size l mf ms x 3 n i A len c d' X) ∧ w'.cell? ⟨w.heap.size, 1, none⟩ = some (.int .i64 n) ∧ w'.cell? ⟨w.heap.size, 2, none⟩ = some (.int .i64 i))
    (h2 : ∀ W, Hid (Pd B w W w.heap.size l mf ms x 3 n i A len c d' X) → Calls Try.prog 20 #[.pointer (some ⟨x, 0, none⟩), .int .i64 n, .int .i64 i] W fun e w' => e = .returned (.tuple #[.slice none 0 0, .int .i64 r]) ∧ ∃ X', Hid (Pd B w w' w.heap.size l mf ms x 3 n i A len c d' X') ∧ Hid (Sy d' X' (j + 1))) :
    Calls Try.prog 7 #[.pointer (some ⟨l, 0, none⟩), .pointer (some ⟨x, 0, none⟩), .agg #[.int .i64 3, .int .i64 n, .int .i64 i, .slice A len c]] w (DoEnd B w l mf ms x j) := by
  obtain ⟨vF, vL, hx⟩ := hx
  have HP := Lib.hid (pd_start (k := 3) (n := n) (i := i) (A := A) (len := len) (c := c) hd hx)
  have H1 := Lib.hid h1
  have H2 := Lib.hid h2
  obtain ⟨b, hb⟩ : ∃ b, b = w.heap.size := ⟨_, rfl⟩
  rw [← hb] at HP H1 H2
  have HBb := Lib.hid hb
  clear hd hx h1 h2
  go_enter Try.func7, Try.ntmps7
  go_upto_region 1 with fail
  rw [← HBb.out]
  clear hb
  unfold opBox at HP
  generalize w.alloc (.cells #[.int .i64 3, .int .i64 n, .int .i64 i, .slice A len c] 33) = W at HP ⊢
  have x0 := HP.out.c0
  have x1 := HP.out.c1
  have x2 := HP.out.c2
  go_wp2_with fail
  refine (H1.out _ HP).mono ?_
  rintro e w1 ⟨rfl, hp1, y1, y2⟩
  clear HP x0 x1 x2
  go_wp2_with fail
  refine (H2.out _ hp1).mono ?_
  rintro e w2 ⟨rfl, X2, hp2, hs2⟩
  clear hp1 y1 y2
  have hc0 : (convert 31 9 (.slice none 0 0)).run Try.prog w2 = .ok (.string ByteArray.empty) w2 := run_convert_bytes_nil w2 _ _ Try.underlying31 Try.underlying5 0 0 _ Try.underlying9
  go_wp2_with fail
  go_ret
  exact ⟨rfl, hp2.out.two hs2.out, hp2.out.below⟩
/-- Read ends with a page at both. -/
theorem do_3y {d' : Dk} {p : List Int} (hp : p.length = 256) (hd : DkAt B w l mf ms d) (hx : ∃ vF vL, XdAt B w x vF vL X)
    (h1 : ∀ W, Hid (Pd B w W w.heap.size l mf ms x 3 n i A len c d X) → Calls Try.prog 12 #[.pointer (some ⟨l, 0, none⟩), .int .i64 n, .int .i64 i] W fun e w' => ∃ g, e = .returned (.tuple #[.slice (some ⟨g, 0, none⟩) 256 256, .int .i64 0]) ∧ Hid (PageAt w' g p) ∧ Hid (Pd B w w' w.heap.size l mf ms x 3 n i A len c d' X) ∧ w'.cell? ⟨w.heap.size, 1, none⟩ = some (.int .i64 n) ∧ w'.cell? ⟨w.heap.size, 2, none⟩ = some (.int .i64 i))
    (h2 : ∀ W, Hid (Pd B w W w.heap.size l mf ms x 3 n i A len c d' X) → Calls Try.prog 20 #[.pointer (some ⟨x, 0, none⟩), .int .i64 n, .int .i64 i] W fun e w' => ∃ g cp cs, e = .returned (.tuple #[.slice (some ⟨g, 0, none⟩) 256 cp, .int .i64 0]) ∧ Hid (w'.heap[g]? = some (.cells cs 5 (0, 0)) ∧ cs.toList.take 256 = p.map (Value.int .u8)) ∧ Hid (Xg B W w') ∧ ∃ X', Hid (Pd B w w' w.heap.size l mf ms x 3 n i A len c d' X') ∧ Hid (Sy d' X' (j + 1))) :
    Calls Try.prog 7 #[.pointer (some ⟨l, 0, none⟩), .pointer (some ⟨x, 0, none⟩), .agg #[.int .i64 3, .int .i64 n, .int .i64 i, .slice A len c]] w (DoEnd B w l mf ms x j) := by
  obtain ⟨vF, vL, hx⟩ := hx
  have HP := Lib.hid (pd_start (k := 3) (n := n) (i := i) (A := A) (len := len) (c := c) hd hx)
  have H1 := Lib.hid h1
  have H2 := Lib.hid h2
  have HLp := Lib.hid hp
  obtain ⟨b, hb⟩ : ∃ b, b = w.heap.size := ⟨_, rfl⟩
  rw [← hb] at HP H1 H2
  have HBb := Lib.hid hb
  clear hd hx h1 h2 hp
  go_enter Try.func7, Try.ntmps7
  go_upto_region 1 with fail
  rw [← HBb.out]
  clear hb
  unfold opBox at HP
  generalize w.alloc (.cells #[.int .i64 3, .int .i64 n, .int .i64 i, .slice A len c] 33) = W at HP ⊢
  have x0 := HP.out.c0
  have x1 := HP.out.c1
  have x2 := HP.out.c2
  go_wp2_with fail
  refine (H1.out _ HP).mono ?_
  rintro e w1 ⟨g1, rfl, hpg, hp1, y1, y2⟩
  clear HP x0 x1 x2
  go_wp2_with fail
  refine (H2.out _ hp1).mono ?_
  rintro e w2 ⟨g2, cp, cs, rfl, hcs, hxg, X2, hp2, hs2⟩
  clear hp1 y1 y2
  have hc1 := str_cells (w := w2) (g := g1) (q := p) (t := 66) (fr := (0, 0)) (hxg.out.typ _ _ hpg.out (by simp [ofX])) HLp.out 256
  have hc2 : (convert 31 9 (.slice (some ⟨g2, 0, none⟩) 256 cp)).run Try.prog w2 = .ok (.string (strOfNums p)) w2 := by
    refine run_convert_bytes_arg w2 _ _ Try.underlying31 Try.underlying5 g2 0 256 cp p HLp.out (fun i hi => ?_) _ Try.underlying9
    have hi2 : i < p.length := by have := HLp.out; omega
    have hu : (p.map (Value.int .u8))[i]? = some (.int .u8 p[i]) := by rw [List.getElem?_map, List.getElem?_eq_getElem hi2]; rfl
    rw [← hcs.out.2, List.getElem?_take_of_lt hi, Array.getElem?_toList] at hu
    simp [World.cell?, hcs.out.1, hu, List.getD, hi2]
  clear hpg hcs hxg
  go_wp2_with fail
  go_ret
  exact ⟨rfl, hp2.out.two hs2.out, hp2.out.below⟩
theorem do_3 (h : Two B w l mf ms x j) (hj : j < 1000000000000) (n i : Int) (A : Option Addr) (len c : Nat) (hw : (Lit.int .i64 n).wf = true) :
    Calls Try.prog 7 #[.pointer (some ⟨l, 0, none⟩), .pointer (some ⟨x, 0, none⟩), .agg #[.int .i64 3, .int .i64 n, .int .i64 i, .slice A len c]] w (DoEnd B w l mf ms x j) := by
  obtain ⟨d, X, vF, vL, hd, hx, hs⟩ := h.ex
  have hc := hs.cnt
  have hP := hs.pages n
  by_cases a1 : i < 0 ∨ ((pagesOf d n).length : Int) ≤ i
  · refine do_3n (r := 4) (d' := d) hd ⟨vF, vL, hx⟩ (fun W hW => ?_) (fun W hW => ?_)
    · refine (read_any B l mf ms d n i W hW.out.D hw (by omega) (by omega)).mono ?_
      rintro e w' he
      unfold ReadEnd at he
      rw [if_pos a1] at he
      obtain ⟨rfl, rfl⟩ := he
      exact ⟨rfl, hW, hW.out.c1, hW.out.c2⟩
    · obtain ⟨vF', vL', hx'⟩ := hW.out.ex
      refine (rread_any hx' n i (by rw [hs.deeds]; omega) (by rw [hs.rd]; omega)).mono ?_
      rintro e w' ⟨hg, he⟩
      rw [hP, if_pos a1] at he
      obtain ⟨rfl, hx''⟩ := he
      exact ⟨rfl, X, Lib.hid (hW.out.turnX hx'' hg), Lib.hid (hs.mono (by omega))⟩
  · by_cases a2 : d.deeds + 1 ∈ d.fa
    · refine do_3n (r := 50) (d' := d.deed) hd ⟨vF, vL, hx⟩ (fun W hW => ?_) (fun W hW => ?_)
      · refine (read_any B l mf ms d n i W hW.out.D hw (by omega) (by omega)).mono ?_
        rintro e w' he
        unfold ReadEnd at he
        rw [if_neg a1, if_pos a2] at he
        obtain ⟨rfl, hd', hg⟩ := he
        have hp := hW.out.turnD hd' hg
        exact ⟨rfl, Lib.hid hp, hp.c1, hp.c2⟩
      · obtain ⟨vF', vL', hx'⟩ := hW.out.ex
        refine (rread_any hx' n i (by rw [hs.deeds]; omega) (by rw [hs.rd]; omega)).mono ?_
        rintro e w' ⟨hg, he⟩
        rw [hP, if_neg a1, if_pos (hs.hit.2 a2)] at he
        obtain ⟨rfl, hx''⟩ := he
        exact ⟨rfl, _, Lib.hid (hW.out.turnX hx'' hg), Lib.hid hs.deed⟩
    · obtain ⟨p, hp⟩ : ∃ p, (pagesOf d n)[i.toNat]? = some p := ⟨_, List.getElem?_eq_getElem (by omega)⟩
      have hpl : p.length = 256 := by
        have hm := List.mem_of_getElem? hp
        unfold pagesOf at hm
        split at hm
        · rename_i f hf
          exact hd.sane.pages f (flOf_n hf).2 p hm
        · cases hm
      refine do_3y (p := p) (d' := d.deed.read) hpl hd ⟨vF, vL, hx⟩ (fun W hW => ?_) (fun W hW => ?_)
      · refine (read_any B l mf ms d n i W hW.out.D hw (by omega) (by omega)).mono ?_
        rintro e w' he
        unfold ReadEnd at he
        rw [if_neg a1, if_neg a2] at he
        obtain ⟨g, p', hp', rfl, _, hpg, hd', hg⟩ := he
        rw [hp] at hp'
        cases hp'
        have hpd := hW.out.turnD hd' hg
        exact ⟨g, rfl, Lib.hid hpg, Lib.hid hpd, hpd.c1, hpd.c2⟩
      · obtain ⟨vF', vL', hx'⟩ := hW.out.ex
        refine (rread_any hx' n i (by rw [hs.deeds]; omega) (by rw [hs.rd]; omega)).mono ?_
        rintro e w' ⟨hg, he⟩
        rw [hP, if_neg a1, if_neg (fun e => a2 (hs.hit.1 e))] at he
        obtain ⟨p', v, hp', rfl, ho, hx''⟩ := he
        rw [hp] at hp'
        cases hp'
        rcases ho.2 with ⟨_, h0⟩ | ⟨g, cp, cs, rfl, _, hcs, _, _, _, htk⟩
        · cases h0
        · exact ⟨g, cp, cs, rfl, Lib.hid ⟨hcs, by simpa using htk⟩, Lib.hid hg, _, Lib.hid (hW.out.turnX hx'' hg), Lib.hid hs.read⟩
/-- One call of both: they end alike, and know the same behind it. -/
theorem do_any {q : List Int} (h : Two B w l mf ms x j) (hj : j < 1000000000000) (k n i : Int) (A : Option Addr) (c : Nat) (hw : (Lit.int .i64 n).wf = true) (hql : q.length ≤ 1000) (hq : DataIn B w A q) :
    Calls Try.prog 7 #[.pointer (some ⟨l, 0, none⟩), .pointer (some ⟨x, 0, none⟩), .agg #[.int .i64 k, .int .i64 n, .int .i64 i, .slice A q.length c]] w (DoEnd B w l mf ms x j) := by
  by_cases h1 : k = 1
  · subst h1; exact do_1 h hj n i A q.length c
  by_cases h2 : k = 2
  · subst h2; exact do_2 h hj n i A c hw hql hq
  by_cases h3 : k = 3
  · subst h3; exact do_3 h hj n i A q.length c hw
  by_cases h4 : k = 4
  · subst h4; exact do_4 h n i A q.length c hw
  exact do_0 h k n i A q.length c h1 h2 h3 h4
end
end Go.Proofs.Ythimgldohhaimab
