/-
  QueueDoes: each call of the document's own queue.
-/
import Derived.Test.YthimgldohhaimaaQv2
import Derived.BigQuiet
import Derived.BigRegion
import Derived.Deep.QuietTactic
import Derived.Deep.CutRange
namespace Go.Proofs.Ythimgldohhaimaa
open Go.RowKit Go.Conc

/-- What a call of the document's own queue may do. -/
structure RStep (B : Nat) (w w' : World) (x : Nat) (v v' : Value) : Prop where
  below : Below B w w'
  block : ∀ k, k < w.heap.size → k ≠ x → v.ownBlock ≠ some k → w'.heap[k]? = w.heap[k]?
  own : ∀ k, v'.ownBlock = some k → v.ownBlock = some k ∨ w.heap.size ≤ k
section
variable {B : Nat} {w : World} {x n : Nat} {v : Value} {L : List Int} {cl : Bool}
theorem RefAt.c0 (h : RefAt B w x v n L cl) : w.cell? ⟨x, 0, none⟩ = some v := by simp [World.cell?, h.box]
theorem RefAt.c1 (h : RefAt B w x v n L cl) : w.cell? ⟨x, 1, none⟩ = some (.int .i64 n) := by simp [World.cell?, h.box]
theorem RefAt.c2 (h : RefAt B w x v n L cl) : w.cell? ⟨x, 2, none⟩ = some (.bool cl) := by simp [World.cell?, h.box]
theorem RefAt.fz (h : RefAt B w x v n L cl) (j : Nat) : w.frozen? ⟨x, j, none⟩ = false := by simp [World.frozen?, h.box]
theorem RefAt.kept {w' : World} (h : RefAt B w x v n L cl) (hb : Below w.heap.size w w') : RefAt B w' x v n L cl :=
  ⟨(hb.block x (block_ltQ h.box)).trans h.box, own_same h.own fun k hk => hb.block k (h.own.lt k hk).2, h.lo, h.room⟩
theorem RefAt.slice (h : RefAt B w x v n L cl) : ∃ A c, v = .slice A L.length c := own_slice h.own
set_option maxRecDepth 100000 in
set_option maxHeartbeats 4000000 in
theorem rroom_any (h : RefAt B w x v n L cl) :
    Calls Try.prog 55 #[.pointer (some ⟨x, 0, none⟩)] w fun e w' => e = .returned (.int .i64 (roomZ cl n L)) ∧ Below w.heap.size w w' := by
  obtain ⟨A, c, rfl⟩ := h.slice
  have c0 := h.c0
  have c1 := h.c1
  have c2 := h.c2
  have hr := h.room
  obtain ⟨N, hN⟩ : ∃ N, N = L.length := ⟨_, rfl⟩
  have HN := Lib.hid hN
  rw [← hN] at c0 hr
  have h1 := hr.1
  have h2 := hr.2
  clear hN hr h
  cases cl with
  | true =>
    go_enter Try.func55, Try.ntmps55
    go_wp2_with fail
    go_ret
    exact ⟨rfl, Below.refl _ _⟩
  | false =>
    go_enter Try.func55, Try.ntmps55
    go_wp2_with fail
    go_region
    go_wp2_with fail
    go_ret
    exact ⟨by simp [roomZ, HN.out], Below.drew (Below.refl _ _)⟩
set_option maxRecDepth 100000 in
set_option maxHeartbeats 4000000 in
theorem rput_no (h : RefAt B w x v n L cl) (z : Int) (hc : canPut cl n L = false) :
    Calls Try.prog 52 #[.pointer (some ⟨x, 0, none⟩), .int .i64 z] w fun e w' => e = .returned (.bool false) ∧ Below w.heap.size w w' := by
  obtain ⟨A, c, rfl⟩ := h.slice
  have c0 := h.c0
  have c1 := h.c1
  have c2 := h.c2
  obtain ⟨N, hN⟩ : ∃ N, N = L.length := ⟨_, rfl⟩
  have hc2 := hc
  unfold canPut at hc2
  rw [← hN] at c0 hc2
  clear hN h hc
  cases cl with
  | true =>
    clear hc2
    go_enter Try.func52, Try.ntmps52
    go_wp2_with fail
    go_quiet (fail)
    go_wp2_with fail
    go_ret
    exact ⟨rfl, ⟨rfl, rfl, rfl, Nat.le_refl _, fun _ _ => rfl⟩⟩
  | false =>
    have hge : (n : Int) ≤ (N : Int) := by simp at hc2; omega
    clear hc2
    go_enter Try.func52, Try.ntmps52
    go_wp2_with fail
    go_quiet (fail)
    go_wp2_with fail
    go_ret
    exact ⟨rfl, ⟨rfl, rfl, rfl, Nat.le_refl _, fun _ _ => rfl⟩⟩
set_option maxRecDepth 100000 in
set_option maxHeartbeats 4000000 in
theorem rput_yes (h : RefAt B w x v n L false) (z : Int) (hl : L.length < n) :
    Calls Try.prog 52 #[.pointer (some ⟨x, 0, none⟩), .int .i64 z] w fun e w' => e = .returned (.bool true) ∧ ∃ v', RefAt B w' x v' n (L ++ [z]) false ∧ RStep B w w' x v v' := by
  obtain ⟨i0, hi, hz0, hz1, hz2⟩ := info_parts infoI_e
  obtain ⟨A, c, rfl⟩ := h.slice
  have c0 := h.c0
  have c1 := h.c1
  have c2 := h.c2
  have hrm := h.room.2
  obtain ⟨N, hN⟩ : ∃ N, N = L.length := ⟨_, rfl⟩
  have HN := Lib.hid hN
  have hlt : (N : Int) < (n : Int) := by omega
  have HH := Lib.hid h
  rw [← hN] at c0 HH
  have hl2 : N < n := by omega
  have HO := Lib.hid (show w.ownsRow B 3 1 (.slice A N c) N (L.map (Value.int .i64)) by rw [hN]; exact h.own)
  have HLt := Lib.hid (And.intro (block_ltQ h.box) (And.intro h.lo (show B ≤ w.heap.size by have := block_ltQ h.box; have := h.lo; omega)))
  clear hN h hl
  go_enter Try.func52, Try.ntmps52
  go_wp2_with fail
  go_quiet (fail)
  have hdr : Below w.heap.size w (w.drewN nq) := ⟨rfl, rfl, rfl, Nat.le_refl _, fun _ _ => rfl⟩
  have hsz : (w.drewN nq).heap.size = w.heap.size := rfl
  have HO1 := Lib.hid (own_same HO.out (w' := w.drewN nq) fun k hk => hdr.block k (HO.out.lt k hk).2)
  have d0 : (w.drewN nq).cell? ⟨x, 0, none⟩ = some (.slice A N c) := c0
  have HX1 := Lib.hid (show (w.drewN nq).heap[x]? = some (.cells #[.slice A N c, .int .i64 n, .bool false] 88 (0, 0)) from HH.out.box)
  have HD := Lib.hid hdr
  have HSz := Lib.hid hsz
  clear c0 c1 c2 hdr hsz
  generalize w.drewN nq = w0 at HO1 d0 HX1 HD HSz ⊢
  go_wp2_with (at_builtin; refine wpList_append_lies _ rfl _ _ 35 rfl B 3 i0 zI 1 8 Try.underlying35 hi hz0 hz1 hz2 rfl (by decide) _ _ _ rfl (HO1.out.alloc _) ⟨w0.heap.size, 0, none⟩ 1 1 [.int .i64 z] rfl rfl ?c1 ?c2 (by decide) ?c3 ?c4 ?c5 _ rfl ?_)
  case c1 =>
    intro j' u hj'
    match j', hj' with
    | 0, hj' => simp at hj'; subst hj'; simp [Addr.add]
  case c2 => intro u hu; simp at hu; subst hu; rfl
  case c3 => unfold maxLen; omega
  case c4 => omega
  case c5 => have := HLt.out.2.2; have := HSz.out; simp; omega
  · intro g cap w2 hown2 hg2 hgg hg3
    have hne : (Value.slice A N c).ownBlock ≠ some x := fun e => by
      obtain ⟨cs, fr, h1⟩ := own_ty HO1.out e
      rw [HX1.out] at h1
      simp only [Option.some.injEq, Obj.cells.injEq] at h1
      exact absurd h1.2.1 (by decide)
    have hxlt : x < w0.heap.size := block_ltQ HX1.out
    have hbx : w2.heap[x]? = some (.cells #[.slice A N c, .int .i64 n, .bool false] 88 (0, 0)) := (hg2.block x (by simp; omega) (fun e => hne e.symm)).trans (((ba w0 _).block x hxlt).trans HX1.out)
    have f2 : w2.frozen? ⟨x, 0, none⟩ = false := by simp [World.frozen?, hbx]
    have e2 : w2.cell? ⟨x, 0, none⟩ = some (.slice A N c) := by simp [World.cell?, hbx]
    have HO2 := Lib.hid hown2
    have HG := Lib.hid hg2
    have HGG := Lib.hid (And.intro hgg hg3)
    have HBx := Lib.hid hbx
    have HXl := Lib.hid hxlt
    clear hown2 hg2 hgg hbx hne hg3 hxlt
    go_wp2_with fail
    go_ret
    have hgx : g ≠ x := fun e => by
      obtain ⟨cs, fr, h1⟩ := own_ty HO2.out (k := g) rfl
      rw [e, HBx.out] at h1
      simp only [Option.some.injEq, Obj.cells.injEq] at h1
      exact absurd h1.2.1 (by decide)
    have hs0 := HSz.out
    have hs2 := HG.out.size
    simp at hs2
    have hset : ∀ k, k ≠ x → (w2.setCell ⟨x, 0, none⟩ (.slice (some ⟨g, 0, none⟩) (N + 1) cap)).heap[k]? = w2.heap[k]? := fun k hk => by simp [World.setCell, Array.getElem?_modify, Ne.symm hk]
    refine ⟨rfl, .slice (some ⟨g, 0, none⟩) (N + 1) cap, ⟨?_, ?_, HLt.out.2.1, by have := HN.out; simp; omega⟩, ⟨?_, fun k hk hkx hkv => ?_, fun k hk => ?_⟩⟩
    · have := HBx.out
      simp only [World.setCell, Array.getElem?_modify, this]
      rfl
    · have h3 := own_same HO2.out (w' := w2.setCell ⟨x, 0, none⟩ (.slice (some ⟨g, 0, none⟩) (N + 1) cap)) fun k hk => hset k (fun e => by simp [Value.ownBlock] at hk; exact hgx (hk.trans e))
      rw [List.length_append, ← HN.out, List.map_append]
      exact h3
    · have hb : Below B w0 w2 := ((Below.refl B w0).alloc (by have := HLt.out.2.2; omega) _).grown HG.out (by have := HLt.out.2.2; simp; omega) (fun k hk => (HO1.out.lt k hk).1)
      exact ((HD.out.mono HLt.out.2.2).trans hb).setCell HLt.out.2.1 _
    · rw [hset k hkx]
      exact (HG.out.block k (by simp; omega) (fun e => hkv (by rw [← HN.out]; exact e.symm))).trans (((ba w0 _).block k (by omega)).trans (HD.out.block k hk))
    · simp [Value.ownBlock] at hk
      subst hk
      rcases HGG.out.1 with h4 | h4
      · exact .inl (by rw [← HN.out]; exact h4)
      · exact .inr (by omega)
set_option maxRecDepth 100000 in
set_option maxHeartbeats 4000000 in
theorem rtake_none (h : RefAt B w x v n [] cl) :
    Calls Try.prog 53 #[.pointer (some ⟨x, 0, none⟩)] w fun e w' => e = .returned (.tuple #[.int .i64 0, .bool false]) ∧ w = w' := by
  obtain ⟨A, c, rfl⟩ := h.slice
  have c0 := h.c0
  clear h
  go_enter Try.func53, Try.ntmps53
  go_wp2_with fail
  go_ret2
  exact ⟨rfl, rfl⟩
/-- Behind Take. -/
theorem rtake_fin {w2 : World} {g c N cp2 : Nat} {a : Int} {A2 : Option Addr} (h : RefAt B w x (.slice (some ⟨g, 0, none⟩) (a :: L).length c) n (a :: L) cl) (hbx : w2.heap[x]? = some (.cells #[.slice (some ⟨g, 0, none⟩) (N + 1) c, .int .i64 n, .bool cl] 88 (0, 0))) (hN : N = L.length) (hx : x < w.heap.size)
    (hg : (w.alloc (.cells #[] 3)).grownBy w2 (some w.heap.size)) (ho : w2.ownsRow w.heap.size 3 1 (.slice A2 N cp2) N (L.map (Value.int .i64))) :
    RefAt B (w2.setCell ⟨x, 0, none⟩ (.slice A2 N cp2)) x (.slice A2 N cp2) n L cl ∧ RStep B w (w2.setCell ⟨x, 0, none⟩ (.slice A2 N cp2)) x (.slice (some ⟨g, 0, none⟩) (a :: L).length c) (.slice A2 N cp2) := by
  have hset : ∀ k, k ≠ x → (w2.setCell ⟨x, 0, none⟩ (.slice A2 N cp2)).heap[k]? = w2.heap[k]? := fun k hk => by simp [World.setCell, Array.getElem?_modify, Ne.symm hk]
  have hB : B ≤ w.heap.size := by have := h.lo; omega
  have hb : Below w.heap.size w w2 := ((Below.refl w.heap.size w).alloc (Nat.le_refl _) _).grown hg (by simp) (fun k hk => by cases hk; exact Nat.le_refl _)
  have h3 := own_same ho (w' := w2.setCell ⟨x, 0, none⟩ (.slice A2 N cp2)) fun k hk => hset k (by have := (ho.lt k hk).1; omega)
  refine ⟨⟨?_, ⟨?_, ?_⟩, h.lo, by have := h.room; simp at this; omega⟩, ⟨(hb.mono hB).setCell h.lo _, fun k hk hkx _ => (hset k hkx).trans (hb.block k hk), fun k hk => .inr (ho.lt k hk).1⟩⟩
  · simp only [World.setCell, Array.getElem?_modify, hbx]
    rfl
  · simp
  · rw [hN] at h3
    rcases h3.2 with h1 | ⟨g', cp, cur, h1, h2, h4⟩
    · rw [hN]; exact .inl h1
    · rw [hN]; exact .inr ⟨g', cp, cur, h1, by omega, h4⟩
set_option maxRecDepth 100000 in
set_option maxHeartbeats 4000000 in
theorem rtake_some (a : Int) (h : RefAt B w x v n (a :: L) cl) :
    Calls Try.prog 53 #[.pointer (some ⟨x, 0, none⟩)] w fun e w' => e = .returned (.tuple #[.int .i64 a, .bool true]) ∧ ∃ v', RefAt B w' x v' n L cl ∧ RStep B w w' x v v' := by
  obtain ⟨i0, hi, hz0, hz1, hz2⟩ := info_parts infoI_e
  obtain ⟨g, c, rfl, hgb, hgc⟩ := own_cell h.own (by simp)
  have c0 := h.c0
  have hrm := h.room
  obtain ⟨N, hN⟩ : ∃ N, N = L.length := ⟨_, rfl⟩
  have HN := Lib.hid hN
  have hcc : N + 1 ≤ c ∧ c ≤ maxLen := by
    rcases h.own.2 with ⟨h1, _⟩ | ⟨g', cp, cur, h1, h2, _, h3, h4, _⟩
    · cases h1
    · simp at h1 h3
      omega
  have hc0 := hgc 0 (.int .i64 a) rfl
  have hcells : ∀ (j : Nat) (u : Value), (L.map (Value.int .i64))[j]? = some u → w.cell? ⟨g, 1 + j, none⟩ = some u := fun j u hu => hgc (1 + j) u (by rw [Nat.add_comm]; simpa using hu)
  have HCl := Lib.hid hcells
  have HH := Lib.hid h
  rw [show (a :: L).length = N + 1 by simp [hN]] at c0 hrm
  have hn1 := hrm.1
  have hn2 := hrm.2
  have hc1 := hcc.1
  have hc2 : c ≤ 9223372036854775807 := by have := hcc.2; unfold maxLen at this; omega
  have e0 := (ba w (.cells #[] 3)).cell (p := ⟨x, 0, none⟩) (block_ltQ h.box) |>.trans c0
  clear hcells hgc h hcc hrm hN
  go_enter Try.func53, Try.ntmps53
  go_upto_region 4 with fail
  have hown0 : (w.alloc (.cells #[] 3)).ownsRow w.heap.size 3 1 (.slice (some ⟨w.heap.size, 0, none⟩) 0 0) 0 [] := ⟨rfl, .inr ⟨w.heap.size, 0, #[], rfl, Nat.le_refl _, (MapKept.heap_alloc w _).1, Nat.le_refl _, Nat.zero_le _, rfl, rfl⟩⟩
  by_cases hc1' : c = 1
  · have hN0 : N = 0 := by omega
    subst hc1' hN0
    have hL0 : L = [] := List.eq_nil_of_length_eq_zero HN.out.symm
    subst hL0
    go_wp2_with (at_builtin; refine wpList_append_own _ rfl (.tmp 18) (.tmp 23) 35 rfl w.heap.size 3 i0 zI 1 8 Try.underlying35 hi hz0 hz1 hz2 rfl (by decide) _ _ _ rfl hown0 _ 0 _ [] rfl rfl (fun j u hu => by cases hu) (fun u hu => by cases hu) (by decide) (by decide) (by simp) ?_)
    intro v' w2 hown2 hg2 _
    obtain ⟨A2, cp2, rfl⟩ := own_slice hown2
    have hxlt : x < w.heap.size := block_ltQ HH.out.box
    have hbx : w2.heap[x]? = some (.cells #[.slice (some ⟨g, 0, none⟩) 1 1, .int .i64 n, .bool cl] 88 (0, 0)) := by
      have := HH.out.box
      exact (hg2.block x (by simp; omega) (by simp [Value.ownBlock]; omega)).trans (((ba w _).block x hxlt).trans this)
    have f2 : w2.frozen? ⟨x, 0, none⟩ = false := by simp [World.frozen?, hbx]
    have e2 : w2.cell? ⟨x, 0, none⟩ = some (.slice (some ⟨g, 0, none⟩) 1 1) := by simp [World.cell?, hbx]
    have HO2 := Lib.hid hown2
    have HG := Lib.hid hg2
    have HBx := Lib.hid hbx
    have HXl := Lib.hid hxlt
    clear hown2 hg2 hbx hxlt
    go_wp2_with fail
    go_ret2
    refine ⟨rfl, _, rtake_fin HH.out HBx.out rfl HXl.out HG.out (by simpa using HO2.out)⟩
  · go_wp2_with (at_builtin; refine wpList_append_own _ rfl (.tmp 18) (.tmp 23) 35 rfl w.heap.size 3 i0 zI 1 8 Try.underlying35 hi hz0 hz1 hz2 rfl (by decide) _ _ _ rfl hown0 ⟨g, 1, none⟩ N (c - 1) (L.map (Value.int .i64)) rfl (by have := HN.out; simp; omega) (fun j u hu => by rw [show (⟨g, 1, none⟩ : Addr).add j = ⟨g, 1 + j, none⟩ by unfold Addr.add; split <;> simp_all]; have hgl := (HH.out.own.lt g rfl).2; exact ((ba w _).cell (p := ⟨g, 1 + j, none⟩) hgl).trans (HCl.out j u hu)) (fun u hu => by obtain ⟨y, _, rfl⟩ := List.mem_map.1 hu; rfl) (by unfold maxLen; omega) (by omega) (by simp) ?_)
    intro v' w2 hown2 hg2 _
    obtain ⟨A2, cp2, rfl⟩ := own_slice hown2
    have hxlt : x < w.heap.size := block_ltQ HH.out.box
    have hbx : w2.heap[x]? = some (.cells #[.slice (some ⟨g, 0, none⟩) (N + 1) c, .int .i64 n, .bool cl] 88 (0, 0)) := by
      have := HH.out.box
      rw [show (a :: L).length = N + 1 by simp [HN.out]] at this
      exact (hg2.block x (by simp; omega) (by simp [Value.ownBlock]; omega)).trans (((ba w _).block x hxlt).trans this)
    have f2 : w2.frozen? ⟨x, 0, none⟩ = false := by simp [World.frozen?, hbx]
    have e2 : w2.cell? ⟨x, 0, none⟩ = some (.slice (some ⟨g, 0, none⟩) (N + 1) c) := by simp [World.cell?, hbx]
    have HO2 := Lib.hid hown2
    have HG := Lib.hid hg2
    have HBx := Lib.hid hbx
    have HXl := Lib.hid hxlt
    clear hown2 hg2 hbx hxlt
    go_wp2_with fail
    go_ret2
    refine ⟨rfl, _, rtake_fin HH.out HBx.out HN.out HXl.out HG.out (by simpa using HO2.out)⟩
end
end Go.Proofs.Ythimgldohhaimaa
