/-
  Package catalog: the walk of CatalogTables, for texts that a Builder bears.
Package catalog: lists of tables of the law's own, made by append; a catalog with a table more, plain.
Package catalog: the walk of CatalogAdds.
Tables among a law's arguments, opened.
The tables that the rows of catalog's laws list, and a world that holds them.
Package catalog: a table that is handed by value, and how many letters it holds, at most.
-/
import Derived.Test.YtmjckdgomlppeaaGreatDoorZ13
import Derived.Test.YtmjckdgomlppeaaGreatDoorCards
import Derived.Test.YtmjckdgomlppeaaGreatDoorTie
import Derived.Lib.LaidU8
import Derived.Shelf.Vars
section
namespace Go.Proofs.YtmjckdgomlppeaaGreatDoor
open Go.RowKit Go.Shelf
attribute [local go_sem] Oper.semAt_some

/-- Columns, wherever they lie; a text. -/
def CoIn (l : List Co) (v : Value) (w : World) : Prop := ∃ A c, v = .slice A l.length c ∧ CoAt w A l
theorem CoIn.keeps (l : List Co) : Keeps Bel (CoIn l) := fun _ _ _ hb ⟨A, c, e, h⟩ => ⟨A, c, e, h.kept hb⟩
def StIs (l : List UInt8) (v : Value) (_ : World) : Prop := ∃ s, v = .string s ∧ s.data.toList = l
theorem StIs.keeps (l : List UInt8) : Keeps Bel (StIs l) := fun _ _ _ _ h => h
theorem bytes_eq {s t : ByteArray} (h : s.data.toList = t.data.toList) : s = t := by
  cases s; cases t; simp only at h; congr; exact Array.toList_inj.1 h
set_option maxRecDepth 100000 in
set_option maxHeartbeats 8000000 in
theorem tables_walk (p0 : Nat) (t u : Ta) (A R A' R' : Option Addr) (c d c' d' : Nat) (as_ : ByteArray) (r : List Va) (Ar : Option Addr) (cr : Nat) (wz : World) (h : TaOk wz t A c R d) (h' : TaOk wz u A' c' R' d') (hr : RowAt wz Ar r) (hf : Fine r) (hrl : r.length ≤ 9223372036854775807) (has : as_.size ≤ 9223372036854775807)
    (hnm : t.nm.size ≤ 140737488355328) (hcn : ∀ x ∈ t.cols, x.nm.size ≤ 140737488355328) (hj : (Lib.join (t.cols.map fun c => (colS c).data.toList) [44, 32]).length ≤ 140737488355328) (hT : Tabs wz) (hp : wz.heap.size = p0) :
    Calls Tryz.prog 4 #[TV t.nm A t.cols.length c R t.rows.length d, TV u.nm A' u.cols.length c' R' u.rows.length d', .string as_, .slice Ar r.length cr] wz fun e w' => e = .returned (.bool true) ∧ Below p0 wz w' := by
  have HT := Lib.hid (show ∀ W, Below p0 wz W → Tabs W from fun W hb => hT.kept (hp ▸ hb))
  have HA := Lib.hid (show ∀ W, Below p0 wz W → TaOk W t A c R d from fun W hb => h.kept (hp ▸ hb))
  have HA' := Lib.hid (show ∀ W, Below p0 wz W → TaOk W u A' c' R' d' from fun W hb => h'.kept (hp ▸ hb))
  have HR := Lib.hid (show ∀ W, Below p0 wz W → RowAt W Ar r from fun W hb => hr.kept (hp ▸ hb))
  have HFi := Lib.hid hf
  have HSz := Lib.hid (show t.nm.size ≤ 140737488355328 ∧ (∀ x ∈ t.cols, x.nm.size ≤ 140737488355328) ∧ (Lib.join (t.cols.map fun c => (colS c).data.toList) [44, 32]).length ≤ 140737488355328 from ⟨hnm, hcn, hj⟩)
  obtain ⟨q, hq⟩ : ∃ q, largeC [t, u] = q := ⟨_, rfl⟩
  have HQ := Lib.hid hq
  have h0 := ba2 wz (tbox t.nm A t.cols.length c R t.rows.length d) (tbox u.nm A' u.cols.length c' R' u.rows.length d')
  rw [hp] at h0
  have hx1 := (MapKept.heap_alloc (wz.alloc (tbox t.nm A t.cols.length c R t.rows.length d)) (tbox u.nm A' u.cols.length c' R' u.rows.length d')).1
  have hx0 := ((ba (wz.alloc (tbox t.nm A t.cols.length c R t.rows.length d)) (tbox u.nm A' u.cols.length c' R' u.rows.length d')).block wz.heap.size (by rw [World.size_alloc]; omega)).trans (MapKept.heap_alloc wz (tbox t.nm A t.cols.length c R t.rows.length d)).1
  rw [World.size_alloc] at hx1
  rw [hp] at hx0 hx1
  have HX0 := Lib.hid hx0
  have HX1 := Lib.hid hx1
  have HB := Lib.hid h0
  have HP := Lib.hid hp
  clear hT h h' hr hf hq h0 hx0 hx1 hp hnm hcn hj
  go_enter Tryz.func4, Tryz.ntmps4
  go_upto_region 1 with fail
  generalize (wz.alloc (tbox t.nm A t.cols.length c R t.rows.length d)).alloc (tbox u.nm A' u.cols.length c' R' u.rows.length d') = w1 at HX0 HX1 HB ⊢
  try rw [World.size_alloc]
  rw [HP.out]
  obtain ⟨p1, hp1⟩ : ∃ p1, p0 + 1 = p1 := ⟨_, rfl⟩
  rw [hp1] at HX1 ⊢
  clear hp1
  have hc1 := ct_two w1 t u _ _ _ _ _ _ _ _ (HA.out _ HB.out) (HA'.out _ HB.out)
  have h1 := ba w1 (.cells #[.string t.nm, .slice A t.cols.length c, .slice R t.rows.length d, .string u.nm, .slice A' u.cols.length c', .slice R' u.rows.length d'] 29)
  have HX0' := Lib.hid ((h1.block p0 (Array.getElem?_eq_some_iff.1 HX0.out).1).trans HX0.out)
  have HX1' := Lib.hid ((h1.block p1 (Array.getElem?_eq_some_iff.1 HX1.out).1).trans HX1.out)
  have HB := Lib.hid (btp HB.out HP.out h1)
  obtain ⟨x0, x1, x2⟩ := cell3 HX0.out
  obtain ⟨y0, y1, y2⟩ := cell3 HX1.out
  go_wp2_with fail
  refine (large13_any _ 2 [t, u] _ hc1 (show 2 ≤ 9223372036854775807 by decide) HQ.out).mono ?_
  clear x0 x1 x2 y0 y1 y2 hc1 h1
  generalize w1.alloc (.cells #[.string t.nm, .slice A t.cols.length c, .slice R t.rows.length d, .string u.nm, .slice A' u.cols.length c', .slice R' u.rows.length d'] 29) = w2 at HX0' HX1' HB ⊢
  rintro e w3 ⟨rfl, hb⟩
  have HX0 := Lib.hid ((hb.block p0 (Array.getElem?_eq_some_iff.1 HX0'.out).1).trans HX0'.out)
  have HX1 := Lib.hid ((hb.block p1 (Array.getElem?_eq_some_iff.1 HX1'.out).1).trans HX1'.out)
  have HB := Lib.hid (btp HB.out HP.out hb)
  clear hb
  by_cases hex : q = true ∨ (as_.size : Int) > 1000 ∨ (r.length : Int) > 100
  · have hL : Calls Tryz.prog 9 #[] w3 fun e w' => e = .returned (.bool true) ∧ Below p0 wz w' :=
      (lives13_yes w3 (HT.out _ HB.out)).mono fun e w' ⟨h1, h2⟩ => ⟨h1, btp HB.out HP.out h2⟩
    have HL := Lib.hid hL
    clear hL
    rcases hex with rfl | hex | hex
    · go_wp2_with fail
      refine HL.out.mono ?_
      rintro e w4 ⟨rfl, hb⟩
      go_wp2_with fail
      go_ret
      exact ⟨rfl, hb⟩
    · cases q <;> (go_wp2_with fail; refine HL.out.mono ?_; rintro e w4 ⟨rfl, hb⟩; go_wp2_with fail; go_ret; exact ⟨rfl, hb⟩)
    · cases q
      · by_cases hs : (as_.size : Int) > 1000
        · go_wp2_with fail
          refine HL.out.mono ?_
          rintro e w4 ⟨rfl, hb⟩
          go_wp2_with fail
          go_ret
          exact ⟨rfl, hb⟩
        · go_wp2_with fail
          refine HL.out.mono ?_
          rintro e w4 ⟨rfl, hb⟩
          go_wp2_with fail
          go_ret
          exact ⟨rfl, hb⟩
      · go_wp2_with fail
        refine HL.out.mono ?_
        rintro e w4 ⟨rfl, hb⟩
        go_wp2_with fail
        go_ret
        exact ⟨rfl, hb⟩
  · have hq0 : q = false := by cases q <;> simp_all
    have hs : ¬ (as_.size : Int) > 1000 := fun h => hex (.inr (.inl h))
    have hr1 : ¬ (r.length : Int) > 100 := fun h => hex (.inr (.inr h))
    subst hq0
    have HS := Lib.hid ((smls_of HQ.out).2 t (by simp))
    have HS' := Lib.hid ((smls_of HQ.out).2 u (by simp))
    clear hex
    go_upto_region 3 with fail
    obtain ⟨x0, x1, x2⟩ := cell3 HX0.out
    obtain ⟨y0, y1, y2⟩ := cell3 HX1.out
    have hl0 := (Array.getElem?_eq_some_iff.1 HX0.out).1
    have hl1 := (Array.getElem?_eq_some_iff.1 HX1.out).1
    obtain ⟨fq, hfq⟩ : ∃ fq, fitT t.cols r = fq := ⟨_, rfl⟩
    obtain ⟨sq, hsq⟩ : ∃ sq, sameTs [t] [u] = sq := ⟨_, rfl⟩
    have HFq := Lib.hid hfq
    have HSq := Lib.hid hsq
    have HF1 := Lib.hid (show ∀ x ∈ [t], Few x from fun x hx => by obtain rfl := List.mem_singleton.1 hx; exact HS.out.few)
    have HF2 := Lib.hid (show ∀ x ∈ [u], Few x from fun x hx => by obtain rfl := List.mem_singleton.1 hx; exact HS'.out.few)
    have hcl : t.cols.length ≤ 65536 := by have := HS.out.co; omega
    clear hfq hsq
    refine wp_region_inv (n := 42) (ds := [some 24, some 25, some 26, some 27, some 28, some 29, some 30, some 31, some 32, some 33, some 34, some 35, some 36, some 37, some 38, some 39, some 40, some 41, some 42, some 43, some 44, some 45, some 46, some 47, some 48, some 49, some 50, some 51, some 52, some 53, some 54, some 55, some 56, some 57, some 58, some 59, some 60, some 61, some 62, some 63, some 64, some 8]) (need := [[], [0], [0, 1], [0, 1], [0, 1, 2, 3], [0, 1], [0, 1], [0, 1, 2, 3, 4, 5, 6], [0, 1, 2, 3, 4, 5, 6, 7], [0, 1, 2, 3, 4, 5, 6, 7, 8], [0, 1, 2, 3, 4, 5, 6, 7, 8, 9], [0, 1, 2, 3, 4, 5, 6, 7, 8, 9, 10], [0, 1, 2, 3, 4, 5, 6, 7, 8, 9, 10, 11], [0, 1, 2, 3, 4, 5, 6, 7, 8, 9, 10], [0, 1, 2, 3, 4, 5, 6, 7, 8, 9, 10, 11, 12, 13], [0, 1, 2, 3, 4, 5, 6, 7, 8, 9, 10, 11, 12, 13, 14], [0, 1, 2, 3, 4, 5, 6, 7, 8, 9, 10, 11, 12, 13, 14, 15], [0, 1, 2, 3, 4, 5, 6, 7, 8, 9, 10, 11, 12, 13, 14, 15, 16], [0, 1, 2, 3, 4, 5, 6, 7, 8, 9, 10, 11, 12, 13, 14, 15, 16, 17], [0, 1, 2, 3, 4, 5, 6, 7, 8, 9, 10, 11, 12, 13, 14, 15, 16, 17, 18], [0, 1, 2, 3, 4, 5, 6, 7, 8, 9, 10, 11, 12, 13, 14, 15, 16, 17], [0, 1, 2, 3, 4, 5, 6, 7, 8, 9, 10, 11, 12, 13, 14, 15, 16, 17, 18, 19, 20], [0, 1, 2, 3, 4, 5, 6, 7, 8, 9, 10, 11, 12, 13, 14, 15, 16, 17], [0, 1, 2, 3, 4, 5, 6, 7, 8, 9, 10, 11, 12, 13, 14, 15, 16, 17, 22], [0, 1, 2, 3, 4, 5, 6, 7, 8, 9, 10, 11, 12, 13, 14, 15, 16, 17], [0, 1, 2, 3, 4, 5, 6, 7, 8, 9, 10, 11, 12, 13, 14, 15, 16, 17, 18, 19, 20, 21, 22, 23, 24], [0, 1, 2, 3, 4, 5, 6, 7, 8, 9, 10, 11, 12, 13, 14, 15, 16, 17, 18, 19, 20, 21, 22, 23, 24, 25], [0, 1, 2, 3, 4, 5, 6, 7, 8, 9, 10, 11, 12, 13, 14, 15, 16, 17, 18, 19, 20, 21, 22, 23, 24, 25, 26], [0, 1, 2, 3, 4, 5, 6, 7, 8, 9, 10, 11, 12, 13, 14, 15, 16, 17, 18, 19, 20, 21, 22, 23, 24, 25, 26, 27], [0, 1, 2, 3, 4, 5, 6, 7, 8, 9, 10, 11, 12, 13, 14, 15, 16, 17, 18, 19, 20, 21, 22, 23, 24, 25, 26, 27, 28], [0, 1, 2, 3, 4, 5, 6, 7, 8, 9, 10, 11, 12, 13, 14, 15, 16, 17, 18, 19, 20, 21, 22, 23, 24, 25, 26, 27, 28, 29], [0, 1, 2, 3, 4, 5, 6, 7, 8, 9, 10, 11, 12, 13, 14, 15, 16, 17, 18, 19, 20, 21, 22, 23, 24, 25, 26, 27, 28], [0, 1, 2, 3, 4, 5, 6, 7, 8, 9, 10, 11, 12, 13, 14, 15, 16, 17, 18, 19, 20, 21, 22, 23, 24, 25, 26, 27, 28, 31], [0, 1, 2, 3, 4, 5, 6, 7, 8, 9, 10, 11, 12, 13, 14, 15, 16, 17, 18, 19, 20, 21, 22, 23, 24, 25, 26, 27, 28, 29, 30, 31, 32], [0, 1, 2, 3, 4, 5, 6, 7, 8, 9, 10, 11, 12, 13, 14, 15, 16, 17, 18, 19, 20, 21, 22, 23, 24, 25, 26, 27, 28], [0, 1, 2, 3, 4, 5, 6, 7, 8, 9, 10, 11, 12, 13, 14, 15, 16, 17, 18, 19, 20, 21, 22, 23, 24, 25, 26, 27, 28, 34], [0, 1, 2, 3, 4, 5, 6, 7, 8, 9, 10, 11, 12, 13, 14, 15, 16, 17, 18, 19, 20, 21, 22, 23, 24, 25, 26, 27, 28], [0, 1, 2, 3, 4, 5, 6, 7, 8, 9, 10, 11, 12, 13, 14, 15, 16, 17, 18, 19, 20, 21, 22, 23, 24, 25, 26, 27, 28, 36], [0, 1, 2, 3, 4, 5, 6, 7, 8, 9, 10, 11, 12, 13, 14, 15, 16, 17, 18, 19, 20, 21, 22, 23, 24, 25, 26, 27, 28, 29, 30, 31, 32, 33, 34, 35, 36, 37], [0, 1, 2, 3, 4, 5, 6, 7, 8, 9, 10, 11, 12, 13, 14, 15, 16, 17, 18, 19, 20, 21, 22, 23, 24, 25, 26, 27, 28, 29, 30, 31, 32, 33, 34, 35, 36, 37, 38], [0, 1, 2, 3, 4, 5, 6, 7, 8, 9, 10, 11, 12, 13, 14, 15, 16, 17, 18, 19, 20, 21, 22, 23, 24, 25, 26, 27, 28, 29, 30, 31, 32, 33, 34, 35, 36, 37, 38, 39], [0, 1, 2, 3, 4, 5, 6, 7, 8, 9, 10, 11, 12, 13, 14, 15, 16, 17, 18, 19, 20, 21, 22, 23, 24, 25, 26, 27, 28, 29, 30, 31, 32, 33, 34, 35, 36, 37, 38, 39, 40]]) (R := Bel) (Gs := [
        (fun v _ => v = .bool true),
        (fun v _ => v = .bool true),
        (fun v _ => v = TV t.nm A t.cols.length c R t.rows.length d),
        (fun v _ => v = .string as_),
        (CoIn (t.cols.map (retab as_))),
        (fun v _ => v = TV t.nm A t.cols.length c R t.rows.length d),
        (fun v _ => v = .string as_),
        (CoIn (t.cols.map (retab as_))),
        (fun v _ => v = .bool true),
        (fun v _ => v = .bool true),
        (fun v _ => v = .bool true),
        (fun v _ => v = TV t.nm A t.cols.length c R t.rows.length d),
        (StIs (shoT t)),
        (fun v _ => v = TV t.nm A t.cols.length c R t.rows.length d),
        (StIs (shoT t)),
        (fun v _ => v = .bool true),
        (fun v _ => v = .bool true),
        (fun v _ => v = .bool true),
        (fun v _ => v = .pointer (some ⟨p0, 1, none⟩)),
        (fun v _ => v = .slice A t.cols.length c),
        (fun v _ => v = .slice Ar r.length cr),
        (fun v _ => v = .bool fq),
        (fun v _ => v = .pointer (some ⟨p0, 1, none⟩)),
        (fun v _ => v = .slice A t.cols.length c),
        (fun v _ => v = .slice Ar r.length cr),
        (fun v _ => v = .bool fq),
        (fun v _ => v = .bool true),
        (fun v _ => v = .bool true),
        (fun v _ => v = .bool true),
        (fun v _ => v = TV t.nm A t.cols.length c R t.rows.length d),
        (OneT t),
        (fun v _ => v = TV u.nm A' u.cols.length c' R' u.rows.length d'),
        (OneT u),
        (fun v _ => v = .bool sq),
        (fun v _ => v = TV t.nm A t.cols.length c R t.rows.length d),
        (OneT t),
        (fun v _ => v = TV u.nm A' u.cols.length c' R' u.rows.length d'),
        (OneT u),
        (fun v _ => v = .bool sq),
        (fun v _ => v = .bool true),
        (fun v _ => v = .bool true),
        (fun v _ => v = .bool true)])
      (by kernel_rfl) (by kernel_rfl) (by decide) (by kernel_rfl) (by kernel_rfl) (by kernel_rfl) (fun x => Below.refl _ x) (fun _ _ _ h k => bt h k) ?_ ?_
    · refine Each.cons rfl (Keeps.const _) (StepOk.plain (g := (fun v _ => v = .bool true)) rfl rfl rfl (fun a w hs hR hr pre => ?_)) ?_
      · exact wp_fn (vs := #[]) rfl Tryz.func9 (by kernel_rfl) (by kernel_rfl) (by simp only [List.map_toArray, List.map_nil]) ((lives13_yes w (HT.out _ (btp HB.out HP.out (bt (Below.drew (Below.refl _ _)) hR)))).mono fun _ _ ⟨h1, h2⟩ => ⟨_, h1, h2, rfl⟩)
      refine Each.cons rfl (Keeps.const _) (StepOk.plain (g := (fun v _ => v = .bool true)) rfl rfl rfl (fun a w hs hR hr pre => ?_)) ?_
      · have e24 : a.eval (.tmp 24) = .bool true := pre 0 (by decide)
        exact wp_pure (run_move rfl) e24
      refine Each.cons rfl (Keeps.const _) (StepOk.guarded 1 25 true (g := (fun v _ => v = TV t.nm A t.cols.length c R t.rows.length d)) rfl rfl rfl rfl (fun a w hs hR hr pre => ⟨pre 1 (by decide), ?_⟩)) ?_
      · have ep : a.eval (.tmp 4) = .pointer (some ⟨p0, 0, none⟩) := hr 4 (by decide)
        exact wp_pure (run_ldT rfl ep ((hR.cell (p := ⟨p0, _, none⟩) hl0).trans x0) ((hR.cell (p := ⟨p0, _, none⟩) hl0).trans x1) ((hR.cell (p := ⟨p0, _, none⟩) hl0).trans x2)) rfl
      refine Each.cons rfl (Keeps.const _) (StepOk.guarded 1 25 true (g := (fun v _ => v = .string as_)) rfl rfl rfl rfl (fun a w hs hR hr pre => ⟨pre 1 (by decide), ?_⟩)) ?_
      · have ep : a.eval (.tmp 2) = .string as_ := hr 2 (by decide)
        exact wp_pure (run_move rfl) ep
      refine Each.cons rfl (CoIn.keeps _) (StepOk.guarded 1 25 true (g := (CoIn (t.cols.map (retab as_)))) rfl rfl rfl rfl (fun a w hs hR hr pre => ⟨pre 1 (by decide), ?_⟩)) ?_
      · have e26 : a.eval (.tmp 26) = TV t.nm A t.cols.length c R t.rows.length d := pre 2 (by decide)
        have e27 : a.eval (.tmp 27) = .string as_ := pre 3 (by decide)
        exact wp_fn (vs := #[TV t.nm A t.cols.length c R t.rows.length d, .string as_]) rfl Tryz.func18 (by kernel_rfl) (by kernel_rfl) (by simp only [List.map_toArray, List.map_cons, List.map_nil, e26, e27]) ((columns13_any t as_ A R c d w (HA.out _ (btp HB.out HP.out (bt (Below.drew (Below.refl _ _)) hR))) hcl).mono fun _ _ ⟨v, h1, ⟨A5, c5, h2, _, h3, _⟩, h4⟩ => ⟨v, h1, h4, A5, c5, h2, h3⟩)
      refine Each.cons rfl (Keeps.const _) (StepOk.guarded 1 25 true (g := (fun v _ => v = TV t.nm A t.cols.length c R t.rows.length d)) rfl rfl rfl rfl (fun a w hs hR hr pre => ⟨pre 1 (by decide), ?_⟩)) ?_
      · have ep : a.eval (.tmp 4) = .pointer (some ⟨p0, 0, none⟩) := hr 4 (by decide)
        exact wp_pure (run_ldT rfl ep ((hR.cell (p := ⟨p0, _, none⟩) hl0).trans x0) ((hR.cell (p := ⟨p0, _, none⟩) hl0).trans x1) ((hR.cell (p := ⟨p0, _, none⟩) hl0).trans x2)) rfl
      refine Each.cons rfl (Keeps.const _) (StepOk.guarded 1 25 true (g := (fun v _ => v = .string as_)) rfl rfl rfl rfl (fun a w hs hR hr pre => ⟨pre 1 (by decide), ?_⟩)) ?_
      · have ep : a.eval (.tmp 2) = .string as_ := hr 2 (by decide)
        exact wp_pure (run_move rfl) ep
      refine Each.cons rfl (CoIn.keeps _) (StepOk.guarded 1 25 true (g := (CoIn (t.cols.map (retab as_)))) rfl rfl rfl rfl (fun a w hs hR hr pre => ⟨pre 1 (by decide), ?_⟩)) ?_
      · have e29 : a.eval (.tmp 29) = TV t.nm A t.cols.length c R t.rows.length d := pre 5 (by decide)
        have e30 : a.eval (.tmp 30) = .string as_ := pre 6 (by decide)
        exact wp_fn (vs := #[TV t.nm A t.cols.length c R t.rows.length d, .string as_]) rfl Tryz.func19 (by kernel_rfl) (by kernel_rfl) (by simp only [List.map_toArray, List.map_cons, List.map_nil, e29, e30]) ((rcolumns_any t as_ A R c d w (HA.out _ (btp HB.out HP.out (bt (Below.drew (Below.refl _ _)) hR))) hcl).mono fun _ _ ⟨v, h1, ⟨A5, c5, h2, _, h3, _⟩, h4⟩ => ⟨v, h1, h4, A5, c5, h2, h3⟩)
      refine Each.cons rfl (Keeps.const _) (StepOk.guarded 1 25 true (g := (fun v _ => v = .bool true)) rfl rfl rfl rfl (fun a w hs hR hr pre => ⟨pre 1 (by decide), ?_⟩)) ?_
      · have h28 : CoIn (t.cols.map (retab as_)) (a.eval (.tmp 28)) w := pre 4 (by decide)
        have h31 : CoIn (t.cols.map (retab as_)) (a.eval (.tmp 31)) w := pre 7 (by decide)
        obtain ⟨A5, c5, e28, hc5⟩ := h28
        obtain ⟨A6, c6, e31, hc6⟩ := h31
        exact wp_fn (vs := #[.slice A5 (t.cols.map (retab as_)).length c5, .slice A6 (t.cols.map (retab as_)).length c6]) rfl Tryz.func17 (by kernel_rfl) (by kernel_rfl) (by simp only [List.map_toArray, List.map_cons, List.map_nil, e28, e31]) ((sameCols_any A5 A6 c5 c6 _ _ w hc5 hc6 (by rw [List.length_map]; omega) (sameCs_refl _)).mono fun _ _ ⟨h1, h2⟩ => ⟨_, h1, h2, rfl⟩)
      refine Each.cons rfl (Keeps.const _) (StepOk.plain (g := (fun v _ => v = .bool true)) rfl rfl rfl (fun a w hs hR hr pre => ?_)) ?_
      · have e25 : a.eval (.tmp 25) = .bool true := pre 1 (by decide)
        have e32 : a.eval (.tmp 32) = .bool true := pre 8 (by decide)
        exact wp_pure (run_pick rfl true e25) (by simpa using e32)
      refine Each.cons rfl (Keeps.const _) (StepOk.plain (g := (fun v _ => v = .bool true)) rfl rfl rfl (fun a w hs hR hr pre => ?_)) ?_
      · have e33 : a.eval (.tmp 33) = .bool true := pre 9 (by decide)
        exact wp_pure (run_move rfl) e33
      refine Each.cons rfl (Keeps.const _) (StepOk.guarded 10 34 true (g := (fun v _ => v = TV t.nm A t.cols.length c R t.rows.length d)) rfl rfl rfl rfl (fun a w hs hR hr pre => ⟨pre 10 (by decide), ?_⟩)) ?_
      · have ep : a.eval (.tmp 4) = .pointer (some ⟨p0, 0, none⟩) := hr 4 (by decide)
        exact wp_pure (run_ldT rfl ep ((hR.cell (p := ⟨p0, _, none⟩) hl0).trans x0) ((hR.cell (p := ⟨p0, _, none⟩) hl0).trans x1) ((hR.cell (p := ⟨p0, _, none⟩) hl0).trans x2)) rfl
      refine Each.cons rfl (StIs.keeps _) (StepOk.guarded 10 34 true (g := (StIs (shoT t))) rfl rfl rfl rfl (fun a w hs hR hr pre => ⟨pre 10 (by decide), ?_⟩)) ?_
      · have e35 : a.eval (.tmp 35) = TV t.nm A t.cols.length c R t.rows.length d := pre 11 (by decide)
        exact wp_fn (vs := #[TV t.nm A t.cols.length c R t.rows.length d]) rfl Tryz.func20 (by kernel_rfl) (by kernel_rfl) (by simp only [List.map_toArray, List.map_cons, List.map_nil, e35]) ((show13_any t A R c d w (HA.out _ (btp HB.out HP.out (bt (Below.drew (Below.refl _ _)) hR))) hcl HSz.out.1 HSz.out.2.1 HSz.out.2.2).mono fun _ _ ⟨s, h1, h2, h3⟩ => ⟨_, h1, h3, s, rfl, h2⟩)
      refine Each.cons rfl (Keeps.const _) (StepOk.guarded 10 34 true (g := (fun v _ => v = TV t.nm A t.cols.length c R t.rows.length d)) rfl rfl rfl rfl (fun a w hs hR hr pre => ⟨pre 10 (by decide), ?_⟩)) ?_
      · have ep : a.eval (.tmp 4) = .pointer (some ⟨p0, 0, none⟩) := hr 4 (by decide)
        exact wp_pure (run_ldT rfl ep ((hR.cell (p := ⟨p0, _, none⟩) hl0).trans x0) ((hR.cell (p := ⟨p0, _, none⟩) hl0).trans x1) ((hR.cell (p := ⟨p0, _, none⟩) hl0).trans x2)) rfl
      refine Each.cons rfl (StIs.keeps _) (StepOk.guarded 10 34 true (g := (StIs (shoT t))) rfl rfl rfl rfl (fun a w hs hR hr pre => ⟨pre 10 (by decide), ?_⟩)) ?_
      · have e37 : a.eval (.tmp 37) = TV t.nm A t.cols.length c R t.rows.length d := pre 13 (by decide)
        exact wp_fn (vs := #[TV t.nm A t.cols.length c R t.rows.length d]) rfl Tryz.func21 (by kernel_rfl) (by kernel_rfl) (by simp only [List.map_toArray, List.map_cons, List.map_nil, e37]) ((rshow13_any t A R c d w (HA.out _ (btp HB.out HP.out (bt (Below.drew (Below.refl _ _)) hR))) hcl HSz.out.1 HSz.out.2.1 HSz.out.2.2).mono fun _ _ ⟨s, h1, h2, h3⟩ => ⟨_, h1, h3, s, rfl, h2⟩)
      refine Each.cons rfl (Keeps.const _) (StepOk.guarded 10 34 true (g := (fun v _ => v = .bool true)) rfl rfl rfl rfl (fun a w hs hR hr pre => ⟨pre 10 (by decide), ?_⟩)) ?_
      · have h36 : StIs (shoT t) (a.eval (.tmp 36)) w := pre 12 (by decide)
        have h38 : StIs (shoT t) (a.eval (.tmp 38)) w := pre 14 (by decide)
        obtain ⟨s5, e36, hs5⟩ := h36
        obtain ⟨s6, e38, hs6⟩ := h38
        obtain rfl : s5 = s6 := bytes_eq (hs5.trans hs6.symm)
        exact wp_pure (run_eqS rfl e36 e38) (by simp)
      refine Each.cons rfl (Keeps.const _) (StepOk.plain (g := (fun v _ => v = .bool true)) rfl rfl rfl (fun a w hs hR hr pre => ?_)) ?_
      · have e34 : a.eval (.tmp 34) = .bool true := pre 10 (by decide)
        have e39 : a.eval (.tmp 39) = .bool true := pre 15 (by decide)
        exact wp_pure (run_pick rfl true e34) (by simpa using e39)
      refine Each.cons rfl (Keeps.const _) (StepOk.plain (g := (fun v _ => v = .bool true)) rfl rfl rfl (fun a w hs hR hr pre => ?_)) ?_
      · have e40 : a.eval (.tmp 40) = .bool true := pre 16 (by decide)
        exact wp_pure (run_move rfl) e40
      refine Each.cons rfl (Keeps.const _) (StepOk.guarded 17 41 true (g := (fun v _ => v = .pointer (some ⟨p0, 1, none⟩))) rfl rfl rfl rfl (fun a w hs hR hr pre => ⟨pre 17 (by decide), ?_⟩)) ?_
      · have ep : a.eval (.tmp 4) = .pointer (some ⟨p0, 0, none⟩) := hr 4 (by decide)
        exact wp_pure (run_faT1 rfl ep) rfl
      refine Each.cons rfl (Keeps.const _) (StepOk.guarded 17 41 true (g := (fun v _ => v = .slice A t.cols.length c)) rfl rfl rfl rfl (fun a w hs hR hr pre => ⟨pre 17 (by decide), ?_⟩)) ?_
      · have e42 : a.eval (.tmp 42) = .pointer (some ⟨p0, 1, none⟩) := pre 18 (by decide)
        exact wp_pure (run_ldCs rfl e42 ((hR.cell (p := ⟨p0, _, none⟩) hl0).trans x1)) rfl
      refine Each.cons rfl (Keeps.const _) (StepOk.guarded 17 41 true (g := (fun v _ => v = .slice Ar r.length cr)) rfl rfl rfl rfl (fun a w hs hR hr pre => ⟨pre 17 (by decide), ?_⟩)) ?_
      · have ep : a.eval (.tmp 3) = .slice Ar r.length cr := hr 3 (by decide)
        exact wp_pure (run_move rfl) ep
      refine Each.cons rfl (Keeps.const _) (StepOk.guarded 17 41 true (g := (fun v _ => v = .bool fq)) rfl rfl rfl rfl (fun a w hs hR hr pre => ⟨pre 17 (by decide), ?_⟩)) ?_
      · have e43 : a.eval (.tmp 43) = .slice A t.cols.length c := pre 19 (by decide)
        have e44 : a.eval (.tmp 44) = .slice Ar r.length cr := pre 20 (by decide)
        exact wp_fn (vs := #[.slice A t.cols.length c, .slice Ar r.length cr]) rfl Tryz.func22 (by kernel_rfl) (by kernel_rfl) (by simp only [List.map_toArray, List.map_cons, List.map_nil, e43, e44]) ((cfits_any A Ar c cr t.cols r w (HA.out _ (btp HB.out HP.out (bt (Below.drew (Below.refl _ _)) hR))).co (HR.out _ (btp HB.out HP.out (bt (Below.drew (Below.refl _ _)) hR))) HFi.out hrl HFq.out).mono fun _ _ ⟨h1, h2⟩ => ⟨_, h1, h2, rfl⟩)
      refine Each.cons rfl (Keeps.const _) (StepOk.guarded 17 41 true (g := (fun v _ => v = .pointer (some ⟨p0, 1, none⟩))) rfl rfl rfl rfl (fun a w hs hR hr pre => ⟨pre 17 (by decide), ?_⟩)) ?_
      · have ep : a.eval (.tmp 4) = .pointer (some ⟨p0, 0, none⟩) := hr 4 (by decide)
        exact wp_pure (run_faT1 rfl ep) rfl
      refine Each.cons rfl (Keeps.const _) (StepOk.guarded 17 41 true (g := (fun v _ => v = .slice A t.cols.length c)) rfl rfl rfl rfl (fun a w hs hR hr pre => ⟨pre 17 (by decide), ?_⟩)) ?_
      · have e46 : a.eval (.tmp 46) = .pointer (some ⟨p0, 1, none⟩) := pre 22 (by decide)
        exact wp_pure (run_ldCs rfl e46 ((hR.cell (p := ⟨p0, _, none⟩) hl0).trans x1)) rfl
      refine Each.cons rfl (Keeps.const _) (StepOk.guarded 17 41 true (g := (fun v _ => v = .slice Ar r.length cr)) rfl rfl rfl rfl (fun a w hs hR hr pre => ⟨pre 17 (by decide), ?_⟩)) ?_
      · have ep : a.eval (.tmp 3) = .slice Ar r.length cr := hr 3 (by decide)
        exact wp_pure (run_move rfl) ep
      refine Each.cons rfl (Keeps.const _) (StepOk.guarded 17 41 true (g := (fun v _ => v = .bool fq)) rfl rfl rfl rfl (fun a w hs hR hr pre => ⟨pre 17 (by decide), ?_⟩)) ?_
      · have e47 : a.eval (.tmp 47) = .slice A t.cols.length c := pre 23 (by decide)
        have e48 : a.eval (.tmp 48) = .slice Ar r.length cr := pre 24 (by decide)
        exact wp_fn (vs := #[.slice A t.cols.length c, .slice Ar r.length cr]) rfl Tryz.func23 (by kernel_rfl) (by kernel_rfl) (by simp only [List.map_toArray, List.map_cons, List.map_nil, e47, e48]) ((rcfits_any A Ar c cr t.cols r w (HA.out _ (btp HB.out HP.out (bt (Below.drew (Below.refl _ _)) hR))).co (HR.out _ (btp HB.out HP.out (bt (Below.drew (Below.refl _ _)) hR))) HFi.out hrl HFq.out).mono fun _ _ ⟨h1, h2⟩ => ⟨_, h1, h2, rfl⟩)
      refine Each.cons rfl (Keeps.const _) (StepOk.guarded 17 41 true (g := (fun v _ => v = .bool true)) rfl rfl rfl rfl (fun a w hs hR hr pre => ⟨pre 17 (by decide), ?_⟩)) ?_
      · have e45 : a.eval (.tmp 45) = .bool fq := pre 21 (by decide)
        have e49 : a.eval (.tmp 49) = .bool fq := pre 25 (by decide)
        exact wp_pure (run_eqB rfl Tryz.underlying4 e45 e49) (by simp)
      refine Each.cons rfl (Keeps.const _) (StepOk.plain (g := (fun v _ => v = .bool true)) rfl rfl rfl (fun a w hs hR hr pre => ?_)) ?_
      · have e41 : a.eval (.tmp 41) = .bool true := pre 17 (by decide)
        have e50 : a.eval (.tmp 50) = .bool true := pre 26 (by decide)
        exact wp_pure (run_pick rfl true e41) (by simpa using e50)
      refine Each.cons rfl (Keeps.const _) (StepOk.plain (g := (fun v _ => v = .bool true)) rfl rfl rfl (fun a w hs hR hr pre => ?_)) ?_
      · have e51 : a.eval (.tmp 51) = .bool true := pre 27 (by decide)
        exact wp_pure (run_move rfl) e51
      refine Each.cons rfl (Keeps.const _) (StepOk.guarded 28 52 true (g := (fun v _ => v = TV t.nm A t.cols.length c R t.rows.length d)) rfl rfl rfl rfl (fun a w hs hR hr pre => ⟨pre 28 (by decide), ?_⟩)) ?_
      · have ep : a.eval (.tmp 4) = .pointer (some ⟨p0, 0, none⟩) := hr 4 (by decide)
        exact wp_pure (run_ldT rfl ep ((hR.cell (p := ⟨p0, _, none⟩) hl0).trans x0) ((hR.cell (p := ⟨p0, _, none⟩) hl0).trans x1) ((hR.cell (p := ⟨p0, _, none⟩) hl0).trans x2)) rfl
      refine Each.cons rfl (OneT.keeps _) (StepOk.guarded 28 52 true (g := (OneT t)) rfl rfl rfl rfl (fun a w hs hR hr pre => ⟨pre 28 (by decide), ?_⟩)) ?_
      · have e53 : a.eval (.tmp 53) = TV t.nm A t.cols.length c R t.rows.length d := pre 29 (by decide)
        exact wp_one rfl ⟨_, _, _, _, e53, HA.out _ (btp HB.out HP.out (bt (Below.drew (Below.refl _ _)) hR))⟩
      refine Each.cons rfl (Keeps.const _) (StepOk.guarded 28 52 true (g := (fun v _ => v = TV u.nm A' u.cols.length c' R' u.rows.length d')) rfl rfl rfl rfl (fun a w hs hR hr pre => ⟨pre 28 (by decide), ?_⟩)) ?_
      · have ep : a.eval (.tmp 5) = .pointer (some ⟨p1, 0, none⟩) := hr 5 (by decide)
        exact wp_pure (run_ldT rfl ep ((hR.cell (p := ⟨p1, _, none⟩) hl1).trans y0) ((hR.cell (p := ⟨p1, _, none⟩) hl1).trans y1) ((hR.cell (p := ⟨p1, _, none⟩) hl1).trans y2)) rfl
      refine Each.cons rfl (OneT.keeps _) (StepOk.guarded 28 52 true (g := (OneT u)) rfl rfl rfl rfl (fun a w hs hR hr pre => ⟨pre 28 (by decide), ?_⟩)) ?_
      · have e55 : a.eval (.tmp 55) = TV u.nm A' u.cols.length c' R' u.rows.length d' := pre 31 (by decide)
        exact wp_one rfl ⟨_, _, _, _, e55, HA'.out _ (btp HB.out HP.out (bt (Below.drew (Below.refl _ _)) hR))⟩
      refine Each.cons rfl (Keeps.const _) (StepOk.guarded 28 52 true (g := (fun v _ => v = .bool sq)) rfl rfl rfl rfl (fun a w hs hR hr pre => ⟨pre 28 (by decide), ?_⟩)) ?_
      · have h54 : OneT t (a.eval (.tmp 54)) w := pre 30 (by decide)
        have h56 : OneT u (a.eval (.tmp 56)) w := pre 32 (by decide)
        obtain ⟨g1, e54, hc1⟩ := h54
        obtain ⟨g2, e56, hc2⟩ := h56
        exact wp_fn (vs := #[.slice (some ⟨g1, 0, none⟩) 1 1, .slice (some ⟨g2, 0, none⟩) 1 1]) rfl Tryz.func24 (by kernel_rfl) (by kernel_rfl) (by simp only [List.map_toArray, List.map_cons, List.map_nil, e54, e56]) ((cSame_any _ _ 1 1 [t] [u] w hc1 hc2 (show 1 ≤ 9223372036854775807 by decide) HF1.out HF2.out HSq.out).mono fun _ _ ⟨h1, h2⟩ => ⟨_, h1, h2, rfl⟩)
      refine Each.cons rfl (Keeps.const _) (StepOk.guarded 28 52 true (g := (fun v _ => v = TV t.nm A t.cols.length c R t.rows.length d)) rfl rfl rfl rfl (fun a w hs hR hr pre => ⟨pre 28 (by decide), ?_⟩)) ?_
      · have ep : a.eval (.tmp 4) = .pointer (some ⟨p0, 0, none⟩) := hr 4 (by decide)
        exact wp_pure (run_ldT rfl ep ((hR.cell (p := ⟨p0, _, none⟩) hl0).trans x0) ((hR.cell (p := ⟨p0, _, none⟩) hl0).trans x1) ((hR.cell (p := ⟨p0, _, none⟩) hl0).trans x2)) rfl
      refine Each.cons rfl (OneT.keeps _) (StepOk.guarded 28 52 true (g := (OneT t)) rfl rfl rfl rfl (fun a w hs hR hr pre => ⟨pre 28 (by decide), ?_⟩)) ?_
      · have e58 : a.eval (.tmp 58) = TV t.nm A t.cols.length c R t.rows.length d := pre 34 (by decide)
        exact wp_one rfl ⟨_, _, _, _, e58, HA.out _ (btp HB.out HP.out (bt (Below.drew (Below.refl _ _)) hR))⟩
      refine Each.cons rfl (Keeps.const _) (StepOk.guarded 28 52 true (g := (fun v _ => v = TV u.nm A' u.cols.length c' R' u.rows.length d')) rfl rfl rfl rfl (fun a w hs hR hr pre => ⟨pre 28 (by decide), ?_⟩)) ?_
      · have ep : a.eval (.tmp 5) = .pointer (some ⟨p1, 0, none⟩) := hr 5 (by decide)
        exact wp_pure (run_ldT rfl ep ((hR.cell (p := ⟨p1, _, none⟩) hl1).trans y0) ((hR.cell (p := ⟨p1, _, none⟩) hl1).trans y1) ((hR.cell (p := ⟨p1, _, none⟩) hl1).trans y2)) rfl
      refine Each.cons rfl (OneT.keeps _) (StepOk.guarded 28 52 true (g := (OneT u)) rfl rfl rfl rfl (fun a w hs hR hr pre => ⟨pre 28 (by decide), ?_⟩)) ?_
      · have e60 : a.eval (.tmp 60) = TV u.nm A' u.cols.length c' R' u.rows.length d' := pre 36 (by decide)
        exact wp_one rfl ⟨_, _, _, _, e60, HA'.out _ (btp HB.out HP.out (bt (Below.drew (Below.refl _ _)) hR))⟩
      refine Each.cons rfl (Keeps.const _) (StepOk.guarded 28 52 true (g := (fun v _ => v = .bool sq)) rfl rfl rfl rfl (fun a w hs hR hr pre => ⟨pre 28 (by decide), ?_⟩)) ?_
      · have h59 : OneT t (a.eval (.tmp 59)) w := pre 35 (by decide)
        have h61 : OneT u (a.eval (.tmp 61)) w := pre 37 (by decide)
        obtain ⟨g1, e59, hc1⟩ := h59
        obtain ⟨g2, e61, hc2⟩ := h61
        exact wp_fn (vs := #[.slice (some ⟨g1, 0, none⟩) 1 1, .slice (some ⟨g2, 0, none⟩) 1 1]) rfl Tryz.func16 (by kernel_rfl) (by kernel_rfl) (by simp only [List.map_toArray, List.map_cons, List.map_nil, e59, e61]) ((rcSame_any _ _ 1 1 [t] [u] w hc1 hc2 (show 1 ≤ 9223372036854775807 by decide) HF1.out HF2.out HSq.out).mono fun _ _ ⟨h1, h2⟩ => ⟨_, h1, h2, rfl⟩)
      refine Each.cons rfl (Keeps.const _) (StepOk.guarded 28 52 true (g := (fun v _ => v = .bool true)) rfl rfl rfl rfl (fun a w hs hR hr pre => ⟨pre 28 (by decide), ?_⟩)) ?_
      · have e57 : a.eval (.tmp 57) = .bool sq := pre 33 (by decide)
        have e62 : a.eval (.tmp 62) = .bool sq := pre 38 (by decide)
        exact wp_pure (run_eqB rfl Tryz.underlying4 e57 e62) (by simp)
      refine Each.cons rfl (Keeps.const _) (StepOk.plain (g := (fun v _ => v = .bool true)) rfl rfl rfl (fun a w hs hR hr pre => ?_)) ?_
      · have e52 : a.eval (.tmp 52) = .bool true := pre 28 (by decide)
        have e63 : a.eval (.tmp 63) = .bool true := pre 39 (by decide)
        exact wp_pure (run_pick rfl true e52) (by simpa using e63)
      refine Each.cons rfl (Keeps.const _) (StepOk.plain (g := (fun v _ => v = .bool true)) rfl rfl rfl (fun a w hs hR hr pre => ?_)) ?_
      · have e64 : a.eval (.tmp 64) = .bool true := pre 40 (by decide)
        exact wp_pure (run_assign rfl) e64
      exact Each.nil
    · intro v w1 hB hG
      have e41 : v 41 = .bool true := hG 41 (by decide)
      clear hG
      simp only [List.take_succ_cons, List.take_zero, puts, Act.put, List.setIfInBounds_toArray, List.set_cons_zero, List.set_cons_succ, Nat.reduceAdd, e41]
      have HB2 := Lib.hid (btp HB.out HP.out (bt (Below.drew (Below.refl _ _)) hB))
      clear hB
      refine wpAny_done (by kernel_rfl) ?_ _
      go_wp2_with fail
      go_ret
      exact ⟨rfl, HB2.out⟩
end Go.Proofs.YtmjckdgomlppeaaGreatDoor
end
section
namespace Go.Proofs.YtmjckdgomlppeaaGreatDoor
open Go.RowKit Go.Shelf
attribute [local go_sem] Oper.semAt_some

/-- The cells of tables that lie in a world. -/
def TCells (wz : World) (xs : List Value) (l : List Ta) : Prop := xs.length = l.length * 3 ∧ ∀ (i : Nat) (t : Ta), l[i]? = some t → ∃ A c R d, xs[i * 3]? = some (.string t.nm) ∧ xs[i * 3 + 1]? = some (.slice A t.cols.length c) ∧ xs[i * 3 + 2]? = some (.slice R t.rows.length d) ∧ TaOk wz t A c R d
theorem TCells.nil (wz : World) : TCells wz [] [] := ⟨rfl, fun i t h => by simp at h⟩
theorem TCells.append {wz : World} {xs ys : List Value} {l r : List Ta} (h : TCells wz xs l) (h' : TCells wz ys r) : TCells wz (xs ++ ys) (l ++ r) := by
  refine ⟨by simp only [List.length_append, h.1, h'.1]; omega, fun i t hi => ?_⟩
  have hl := h.1
  by_cases hk : i < l.length
  · rw [List.getElem?_append_left hk] at hi
    obtain ⟨A, c, R, d, h0, h1, h2, ho⟩ := h.2 i t hi
    exact ⟨A, c, R, d, by rw [List.getElem?_append_left (by omega)]; exact h0, by rw [List.getElem?_append_left (by omega)]; exact h1, by rw [List.getElem?_append_left (by omega)]; exact h2, ho⟩
  · rw [List.getElem?_append_right (by omega)] at hi
    obtain ⟨A, c, R, d, h0, h1, h2, ho⟩ := h'.2 _ t hi
    refine ⟨A, c, R, d, ?_, ?_, ?_, ho⟩
    · rw [List.getElem?_append_right (by omega), show i * 3 - xs.length = (i - l.length) * 3 by omega]; exact h0
    · rw [List.getElem?_append_right (by omega), show i * 3 + 1 - xs.length = (i - l.length) * 3 + 1 by omega]; exact h1
    · rw [List.getElem?_append_right (by omega), show i * 3 + 2 - xs.length = (i - l.length) * 3 + 2 by omega]; exact h2
theorem TCells.one {wz : World} {t : Ta} {A R : Option Addr} {c d : Nat} (h : TaOk wz t A c R d) : TCells wz [.string t.nm, .slice A t.cols.length c, .slice R t.rows.length d] [t] :=
  ⟨rfl, fun i t' hi => by
    match i, hi with
    | 0, hi => cases hi; exact ⟨A, c, R, d, rfl, rfl, rfl, h⟩⟩
theorem TCells.oneCell {wz : World} {xs : List Value} {l : List Ta} (h : TCells wz xs l) : ∀ u ∈ xs, u.oneCell' = true := by
  intro u hu
  obtain ⟨i, hi, rfl⟩ := List.getElem_of_mem hu
  have hl := h.1
  have hq : i / 3 < l.length := by omega
  obtain ⟨A, c, R, d, h0, h1, h2, _⟩ := h.2 (i / 3) l[i / 3] (List.getElem?_eq_getElem hq)
  have h3 : i % 3 = 0 ∨ i % 3 = 1 ∨ i % 3 = 2 := by omega
  rcases h3 with h3 | h3 | h3
  · rw [show i / 3 * 3 = i by omega, List.getElem?_eq_getElem hi] at h0; injection h0 with h0; rw [h0]; rfl
  · rw [show i / 3 * 3 + 1 = i by omega, List.getElem?_eq_getElem hi] at h1; injection h1 with h1; rw [h1]; rfl
  · rw [show i / 3 * 3 + 2 = i by omega, List.getElem?_eq_getElem hi] at h2; injection h2 with h2; rw [h2]; rfl
theorem tcells_at (w : World) (b : Nat) : ∀ (l : List Ta) (off : Nat), (∀ (i : Nat) (t : Ta), l[i]? = some t → ∃ A c R d, w.cell? ⟨b, off + i * 3, none⟩ = some (.string t.nm) ∧ w.cell? ⟨b, off + i * 3 + 1, none⟩ = some (.slice A t.cols.length c) ∧ w.cell? ⟨b, off + i * 3 + 2, none⟩ = some (.slice R t.rows.length d) ∧ TaOk w t A c R d) →
    ∃ xs, TCells w xs l ∧ ∀ j u, xs[j]? = some u → w.cell? ⟨b, off + j, none⟩ = some u
  | [], off, _ => ⟨[], TCells.nil _, fun j u h => by simp at h⟩
  | t :: l, off, h => by
    obtain ⟨A, c, R, d, h0, h1, h2, ho⟩ := h 0 t rfl
    obtain ⟨xs, hx, hc⟩ := tcells_at w b l (off + 3) (fun i u hu => by
      obtain ⟨A, c, R, d, g0, g1, g2, go⟩ := h (i + 1) u (by simpa using hu)
      refine ⟨A, c, R, d, ?_, ?_, ?_, go⟩
      · rw [show off + 3 + i * 3 = off + (i + 1) * 3 by omega]; exact g0
      · rw [show off + 3 + i * 3 = off + (i + 1) * 3 by omega]; exact g1
      · rw [show off + 3 + i * 3 = off + (i + 1) * 3 by omega]; exact g2)
    refine ⟨[.string t.nm, .slice A t.cols.length c, .slice R t.rows.length d] ++ xs, (TCells.one ho).append hx, fun j u hj => ?_⟩
    match j, hj with
    | 0, hj => cases hj; simpa using h0
    | 1, hj => cases hj; simpa using h1
    | 2, hj => cases hj; simpa using h2
    | j + 3, hj =>
      have := hc j u (by simpa using hj)
      rw [show off + (j + 3) = off + 3 + j by omega]; exact this
/-- A list of tables that lies there, as cells. -/
theorem CtAt.tcells {w : World} {A : Option Addr} {l : List Ta} (h : CtAt w A l) : l = [] ∨ ∃ ad xs, A = some ad ∧ TCells w xs l ∧ ∀ j u, xs[j]? = some u → w.cell? (ad.add j) = some u := by
  rcases h with h | ⟨b, off, hA, hlt, hc⟩
  · exact .inl h
  · obtain ⟨xs, hx, hy⟩ := tcells_at w b l off hc
    refine .inr ⟨_, xs, hA, hx, fun j u hj => ?_⟩
    rw [plainC]
    exact hy j u hj
/-- A list of tables of one's own at B, what it holds lying in wz. -/
def TL (wz : World) (B : Nat) (l : List Ta) (v : Value) (w : World) : Prop := (∃ xs, w.ownsRow B 29 3 v l.length xs ∧ TCells wz xs l) ∧ B ≤ w.heap.size
theorem TL.keeps (wz : World) (B : Nat) (l : List Ta) : Keeps Bel (TL wz B l) := fun _ _ _ hb ⟨⟨xs, ho, h⟩, hB⟩ => ⟨⟨xs, owns_same ho (fun k hk => hb.block k (ho.lt k hk).2), h⟩, Nat.le_trans hB hb.size⟩
def EmT (B : Nat) (v : Value) (w : World) : Prop := ∃ n0 : Nat, v = .slice (some ⟨n0, 0, none⟩) 0 0 ∧ w.ownsRow B 29 3 v 0 [] ∧ B ≤ w.heap.size
theorem EmT.keeps (B : Nat) : Keeps Bel (EmT B) := fun _ _ _ hb ⟨n, e, ho, hB⟩ => ⟨n, e, owns_same ho (fun k hk => hb.block k (ho.lt k hk).2), Nat.le_trans hB hb.size⟩
theorem TL.ct {wz w : World} {B : Nat} {l : List Ta} {v : Value} (h : TL wz B l v w) (hb : Below wz.heap.size wz w) : ∃ A c, v = .slice A l.length c ∧ CtAt w A l ∧ l.length ≤ c ∧ c ≤ 9223372036854775807 := by
  obtain ⟨⟨xs, ho, hc⟩, _⟩ := h
  rcases ho.2 with ⟨rfl, h0⟩ | ⟨g, cap, cur, rfl, _, hg, hn, hm, hsz, ht⟩
  · obtain rfl := List.eq_nil_of_length_eq_zero h0
    exact ⟨none, 0, rfl, .inl rfl, Nat.le_refl _, by omega⟩
  · refine ⟨_, cap, rfl, .inr ⟨g, 0, rfl, lt_of_block hg, fun i t hi => ?_⟩, hn, by simp only [maxLen] at hm; omega⟩
    obtain ⟨A, c, R, d, h0, h1, h2, hok⟩ := hc.2 i t hi
    have cell : ∀ (j : Nat) x, xs[j]? = some x → w.cell? ⟨g, 0 + j, none⟩ = some x := fun j x hx => by
      have hj : j < l.length * 3 := by rw [← hc.1]; exact (List.getElem?_eq_some_iff.1 hx).1
      rw [← ht, List.getElem?_take_of_lt hj] at hx
      simp only [World.cell?, hg, Nat.zero_add]
      simpa using hx
    exact ⟨A, c, R, d, cell _ _ h0, cell _ _ h1, cell _ _ h2, hok.kept hb⟩
section
variable {o : Oper} {a : Act} {w : World} {Q : Exit → Act → World → Prop}
theorem run_bsT0 (ho : o.op = .buildSlice 22 0 #[]) :
    (execOp a.eval o).run Tryz.prog w = .ok (.value (.slice (some ⟨w.heap.size, 0, none⟩) 0 0)) (w.alloc (.cells #[] 29)) := by
  unfold execOp
  simp only [ho, List.map_toArray, List.map_nil]
  go_simp
theorem wp_emT (ho : o.op = .buildSlice 22 0 #[]) {B : Nat} (hB : B ≤ w.heap.size) :
    o.wp Tryz.prog a w (fun a' w' => ∃ v, a' = a.put o.dst v ∧ Bel w w' ∧ EmT B v w') Q :=
  wp_made (run_bsT0 ho) ⟨_, rfl, ⟨rfl, .inr ⟨w.heap.size, 0, #[], rfl, hB, heap_alloc_new w _, Nat.le_refl _, Nat.zero_le _, rfl, rfl⟩⟩, by rw [World.size_alloc]; omega⟩
/-- What is appended to an empty list of tables: no old block changes. -/
theorem run_appT0 (ty : TypeId) (n0 : Nat) (A : Option Addr) (c : Nat) (l : List Ta) (wz W : World) (B : Nat) (hv : W.ownsRow B 29 3 (.slice (some ⟨n0, 0, none⟩) 0 0) 0 []) (hr : CtAt wz A l) (hb : Below wz.heap.size wz W) (hA : A = none → c = 0) (hB : B ≤ W.heap.size) (hl : l.length ≤ 65536) :
    ∃ v' w', (Builtin.append_ #[22, 22] ty #[.slice (some ⟨n0, 0, none⟩) 0 0, .slice A l.length c]).run Tryz.prog W = .ok v' w' ∧ TL wz B l v' w' ∧ Below W.heap.size W w' := by
  obtain ⟨i0, hi, hz0, hz1, hz2⟩ := info_parts info_tab13
  by_cases hn : l = []
  · subst hn
    cases A with
    | none =>
      have hc := hA rfl
      subst hc
      have h := run_append_owned_none (P := Tryz.prog) (w := W) B 22 ty 29 i0 3 Tryz.underlying22 hi _ 0 [] hv
      exact ⟨_, W, h, ⟨⟨[], hv, TCells.nil _⟩, hB⟩, Below.refl _ _⟩
    | some ad =>
      have h := run_append_room_cells (P := Tryz.prog) (w := W) 22 ty 29 i0 Tryz.underlying22 hi n0 0 0 0 ad 0 c [] (by simp) (by simp) (by simp) (by omega) (by simp) (by simp)
      refine ⟨_, _, h, ?_, ?_⟩
      · simp only [World.setCells]; exact ⟨⟨[], hv, TCells.nil _⟩, hB⟩
      · simp only [World.setCells]; exact Below.refl _ _
  · rcases hr with h | ⟨b, off, rfl, hlt, hc⟩
    · exact absurd h hn
    · obtain ⟨xs, hx, hy⟩ := tcells_at wz b l off hc
      have h0 : 0 < l.length := List.length_pos_iff.2 hn
      obtain ⟨v', w', h, r1, r2⟩ := run_append_arg_grows (P := Tryz.prog) W 22 ty 29 i0 _ 3 64 Tryz.underlying22 hi hz0 hz1 hz2 rfl (by decide) ⟨n0, 0, none⟩ 0 0 [] rfl (fun j u h => by simp at h) ⟨b, off, none⟩ l.length c xs hx.1 (fun j u hj => by
        rw [plainC]
        exact (hb.cell (p := ⟨b, _, none⟩) hlt).trans (hy j u hj)) (by omega) (by simp only [maxLen]; omega) (by omega)
      have hW := (Below.refl W.heap.size W).grown r2 (Nat.le_refl _) (fun k hk => by cases hk)
      refine ⟨v', w', h, ⟨⟨xs, ?_, hx⟩, Nat.le_trans hB hW.size⟩, hW⟩
      rw [Nat.zero_add, List.nil_append] at r1
      exact ⟨r1.1, r1.2.imp id (fun ⟨g, cap, cur, e, hb, rest⟩ => ⟨g, cap, cur, e, Nat.le_trans hB hb, rest⟩)⟩
theorem wp_appT0 {x y : Operand} (ho : o.op = .call { callee := .builtin .append, args := #[x, y], argTypes := #[22, 22] }) {B : Nat} {wz : World} (hx : EmT B (a.eval x) w) {A : Option Addr} {c : Nat} {l : List Ta} (hy : a.eval y = .slice A l.length c) (hr : CtAt wz A l) (hb : Below wz.heap.size wz w) (hA : A = none → c = 0) (hl : l.length ≤ 65536) :
    o.wp Tryz.prog a w (fun a' w' => ∃ v, a' = a.put o.dst v ∧ Bel w w' ∧ TL wz B l v w') Q := by
  obtain ⟨n0, ex, hv, hB⟩ := hx
  rw [ex] at hv
  obtain ⟨v', w', hr', h2, h3⟩ := run_appT0 o.type n0 A c l wz w B hv hr hb hA hB hl
  unfold Oper.wp execOp
  simp only [ho, resolve, invoke, builtin, Sem.run_bind, Sem.run_pure, Result.andThen_ok, List.map_toArray, List.map_cons, List.map_nil, ex, hy, hr']
  exact ⟨v', rfl, h3, h2⟩
/-- One table more. -/
theorem wp_appT1 {K : Act → World → Prop} {x y : Operand} (ho : o.op = .call { callee := .builtin .append, args := #[x, y], argTypes := #[22, 22] }) {B : Nat} {wz : World} {l : List Ta} (hx : TL wz B l (a.eval x) w) {g : Nat} {t : Ta} {A R : Option Addr} {c d : Nat} (hy : a.eval y = .slice (some ⟨g, 0, none⟩) 1 1)
    (hg : w.heap[g]? = some (tbox t.nm A t.cols.length c R t.rows.length d)) (hok : TaOk wz t A c R d) (hl : l.length ≤ 65536)
    (h : ∀ v' w', TL wz B (l ++ [t]) v' w' → Below B w w' → K (a.put o.dst v') w') :
    o.wp Tryz.prog a w K Q := by
  obtain ⟨i0, hi, hz0, hz1, hz2⟩ := info_parts info_tab13
  obtain ⟨⟨xs, hown, hx⟩, hB⟩ := hx
  obtain ⟨c0, c1, c2⟩ := cell3 hg
  obtain ⟨v', w', hr', ho2, hgr, _⟩ := run_append_own (P := Tryz.prog) w B 22 o.type 29 i0 _ 3 64 Tryz.underlying22 hi hz0 hz1 hz2 rfl (by decide) (a.eval x) l.length xs hown ⟨g, 0, none⟩ 1 1 [.string t.nm, .slice A t.cols.length c, .slice R t.rows.length d] rfl (fun j u hj => by
    rw [plainC, Nat.zero_add]
    match j, hj with
    | 0, hj => cases hj; exact c0
    | 1, hj => cases hj; exact c1
    | 2, hj => cases hj; exact c2) (TCells.one hok).oneCell (by simp only [maxLen]; omega) (by omega) hB
  have hW := (Below.refl B w).grown hgr hB (fun k hk => (hown.lt k hk).1)
  unfold Oper.wp execOp
  simp only [ho, resolve, invoke, builtin, Sem.run_bind, Sem.run_pure, Result.andThen_ok, List.map_toArray, List.map_cons, List.map_nil, hy, hr']
  exact h v' w' ⟨⟨_, by simpa using ho2, hx.append (TCells.one hok)⟩, Nat.le_trans hB hW.size⟩ hW
end
def OneB (ob : Obj) (v : Value) (w : World) : Prop := ∃ g : Nat, v = .slice (some ⟨g, 0, none⟩) 1 1 ∧ w.heap[g]? = some ob
theorem OneB.keeps (ob : Obj) : Keeps Bel (OneB ob) := fun _ _ _ hb ⟨g, e, h⟩ => ⟨g, e, (hb.block g (lt_of_block h)).trans h⟩
theorem wp_fnK {P : Program} {o : Oper} {a : Act} {w : World} {f : FuncId} {fn : Func} {args : Array Operand} {ats : Array TypeId} {vs : Array Value} {K : Act → World → Prop} {Q : Exit → Act → World → Prop} (hop : o.op = .call { callee := .value (.func f), args, argTypes := ats })
    (hf : P.funcs[f]? = some fn) (hname : (fn.name == "runtime.NumGoroutine") = false) (hb : fn.body.isNone = false) (he : args.map a.eval = vs) (h : Calls P f vs w fun e w' => ∃ v, e = .returned v ∧ K (a.put o.dst v) w') : o.wp P a w K Q := by
  unfold Oper.wp
  rw [Conc.run_call_body hop hf hname hb, he]
  refine Calls.mono h ?_
  rintro e w' ⟨v, rfl, hK⟩
  exact hK
/-- A catalog with a table more, plain. -/
theorem adds_plain {l : List Ta} {t : Ta} (h : catB l = true) : l.length ≤ 16 ∧ catB (l ++ [t]) = (tabB t && !(l.findIdx? (nmIs t.nm)).isSome && decide (l.length < 16)) := by
  rw [catB, Bool.and_eq_true, decide_eq_true_eq] at h
  obtain ⟨h1, h2⟩ := h
  refine ⟨h1, ?_⟩
  have h3 : ∀ i, i < l.length → oddTAt l i = false := fun i hi => by
    have h2' : oddTs l = false := by simpa using h2
    unfold oddTs at h2'
    exact by simpa using List.any_eq_false.1 h2' i (List.mem_range.2 hi)
  have h4 : ∀ i, i < l.length → oddTAt (l ++ [t]) i = oddTAt l i := fun i hi => by
    unfold oddTAt
    rw [List.take_append_of_le_length (by omega), List.getD_eq_getElem?_getD, List.getD_eq_getElem?_getD, List.getElem?_append_left hi]
  have h5 : oddTs (l ++ [t]) = oddT (l.map Ta.nm) t := by
    unfold oddTs
    rw [List.length_append, List.length_singleton, List.range_succ, List.any_append]
    have h6 : ((List.range l.length).any (oddTAt (l ++ [t]))) = false := by
      rw [List.any_eq_false]
      intro i hi
      rw [h4 i (List.mem_range.1 hi), h3 i (List.mem_range.1 hi)]; simp
    rw [h6, Bool.false_or]
    simp only [List.any_cons, List.any_nil, Bool.or_false]
    unfold oddTAt
    rw [List.take_left, List.getD_eq_getElem?_getD, List.getElem?_append_right (Nat.le_refl _)]
    simp
  have h7 : hasB (l.map Ta.nm) t.nm = (l.findIdx? (nmIs t.nm)).isSome := by
    unfold hasB
    rw [List.any_map]
    cases hf : l.findIdx? (nmIs t.nm) with
    | none =>
      rw [List.findIdx?_eq_none_iff] at hf
      rw [List.any_eq_false.2]
      · rfl
      · intro x hx; have := hf x hx; simpa [nmIs] using this
    | some k =>
      obtain ⟨hk, hp, _⟩ := List.findIdx?_eq_some_iff_getElem.1 hf
      have := List.any_eq_true.2 ⟨l[k], List.getElem_mem hk, show ((fun t_1 : ByteArray => t_1.toList == t.nm.toList) ∘ Ta.nm) l[k] = true from hp⟩
      rw [this]; rfl
  rw [catB, h5, oddT, h7, List.length_append, List.length_singleton]
  have h8 : tabB t = true → isName t.nm = true := tabB_name
  have h9 : decide (l.length + 1 ≤ 16) = decide (l.length < 16) := by simp [Nat.lt_iff_add_one_le]
  rw [h9]
  cases hb : tabB t with
  | true => rw [h8 hb]; cases (l.findIdx? (nmIs t.nm)).isSome <;> cases decide (l.length < 16) <;> rfl
  | false => cases (l.findIdx? (nmIs t.nm)).isSome <;> cases isName t.nm <;> cases decide (l.length < 16) <;> rfl
end Go.Proofs.YtmjckdgomlppeaaGreatDoor
end
section
namespace Go.Proofs.YtmjckdgomlppeaaGreatDoor
open Go.RowKit Go.Shelf
attribute [local go_sem] Oper.semAt_some

theorem xw_zero {b : Bool} {x : Int} (h : (if b = true then (0 : Int) else 130) = x) : (x == 0) = b ∧ (x == 130) = !b := by subst h; cases b <;> exact ⟨rfl, rfl⟩
set_option maxRecDepth 100000 in
set_option maxHeartbeats 16000000 in
theorem adds_walk (p0 : Nat) (l : List Ta) (Al : Option Addr) (cl : Nat) (t : Ta) (A R : Option Addr) (c d : Nat) (wz : World) (hl : CtAt wz Al l) (hFl : ∀ x ∈ l, FineT x) (hll : l.length ≤ 9223372036854775807) (hAl : Al = none → cl = 0) (h : TaOk wz t A c R d) (hF : FineT t) (hT : Tabs wz) (hp : wz.heap.size = p0) :
    Calls Tryz.prog 7 #[.slice Al l.length cl, TV t.nm A t.cols.length c R t.rows.length d] wz fun e w' => e = .returned (.bool true) ∧ Below p0 wz w' := by
  have HT := Lib.hid (show ∀ W, Below p0 wz W → Tabs W from fun W hb => hT.kept (hp ▸ hb))
  have HA := Lib.hid (show ∀ W, Below p0 wz W → TaOk W t A c R d from fun W hb => h.kept (hp ▸ hb))
  have HC := Lib.hid (show ∀ W, Below p0 wz W → CtAt W Al l from fun W hb => hl.kept (hp ▸ hb))
  have HFl := Lib.hid hFl
  have HF := Lib.hid hF
  have HAl := Lib.hid hAl
  obtain ⟨q, hq⟩ : ∃ q, largeC l = q := ⟨_, rfl⟩
  have HQ := Lib.hid hq
  obtain ⟨q', hq'⟩ : ∃ q', largeC [t] = q' := ⟨_, rfl⟩
  have HQ' := Lib.hid hq'
  have h0 := ba wz (tbox t.nm A t.cols.length c R t.rows.length d)
  rw [hp] at h0
  have hx0 := (MapKept.heap_alloc wz (tbox t.nm A t.cols.length c R t.rows.length d)).1
  rw [hp] at hx0
  have HX := Lib.hid hx0
  have HB := Lib.hid h0
  have HP := Lib.hid hp
  clear hT hl h hq hq' h0 hx0 hp hF hFl hAl
  go_enter Tryz.func7, Tryz.ntmps7
  go_upto_region 1 with fail
  generalize wz.alloc (tbox t.nm A t.cols.length c R t.rows.length d) = w1 at HX HB ⊢
  rw [HP.out]
  go_wp2_with fail
  refine (large13_any Al cl l w1 (HC.out _ HB.out) hll HQ.out).mono ?_
  rintro e w2 ⟨rfl, hb⟩
  have HX := Lib.hid ((hb.block p0 (Array.getElem?_eq_some_iff.1 HX.out).1).trans HX.out)
  have HB := Lib.hid (btp HB.out HP.out hb)
  clear hb
  have HLv := Lib.hid (show ∀ W, Below p0 wz W → Calls Tryz.prog 9 #[] W fun e w' => e = .returned (.bool true) ∧ Below p0 wz w' from fun W hb => (lives13_yes W (HT.out _ hb)).mono fun e w' ⟨h1, h2⟩ => ⟨h1, btp hb HP.out h2⟩)
  cases q with
  | true =>
    go_wp2_with fail
    refine (HLv.out w2 HB.out).mono ?_
    rintro e w4 ⟨rfl, hb⟩
    go_wp2_with fail
    go_ret
    exact ⟨rfl, hb⟩
  | false =>
    have hc1 := ct_one w2 t (HA.out _ HB.out)
    have h1 := ba w2 (tbox t.nm A t.cols.length c R t.rows.length d)
    have HX1 := Lib.hid ((h1.block p0 (Array.getElem?_eq_some_iff.1 HX.out).1).trans HX.out)
    have HB := Lib.hid (btp HB.out HP.out h1)
    obtain ⟨x0, x1, x2⟩ := cell3 HX.out
    go_wp2_with fail
    refine (large13_any _ 1 [t] _ hc1 (show 1 ≤ 9223372036854775807 by decide) HQ'.out).mono ?_
    clear x0 x1 x2 hc1 h1
    generalize w2.alloc (tbox t.nm A t.cols.length c R t.rows.length d) = w3 at HX1 HB ⊢
    rintro e w4 ⟨rfl, hb⟩
    have HX := Lib.hid ((hb.block p0 (Array.getElem?_eq_some_iff.1 HX1.out).1).trans HX1.out)
    have HB := Lib.hid (btp HB.out HP.out hb)
    clear hb
    cases q' with
    | true =>
      go_wp2_with fail
      refine (HLv.out w4 HB.out).mono ?_
      rintro e w5 ⟨rfl, hb⟩
      go_wp2_with fail
      go_ret
      exact ⟨rfl, hb⟩
    | false =>
      obtain ⟨hl30, hS⟩ := smls_of HQ.out
      have HS := Lib.hid hS
      have HSt := Lib.hid ((smls_of HQ'.out).2 t (List.mem_singleton.2 rfl))
      obtain ⟨b, hb0⟩ : ∃ b, catB l = b := ⟨_, rfl⟩
      have HCat := Lib.hid hb0
      clear hS
      go_wp2_with fail
      refine (rcheck13_any Al cl l w4 (HC.out _ HB.out) (by omega) HFl.out hb0).mono ?_
      rintro e w5 ⟨rfl, hb⟩
      have HX := Lib.hid ((hb.block p0 (Array.getElem?_eq_some_iff.1 HX.out).1).trans HX.out)
      have HB := Lib.hid (btp HB.out HP.out hb)
      clear hb hb0
      cases b with
      | false =>
        go_wp2_with fail
        refine (HLv.out w5 HB.out).mono ?_
        rintro e w6 ⟨rfl, hb⟩
        go_wp2_with fail
        go_ret
        exact ⟨rfl, hb⟩
      | true =>
        go_upto_region 3 with fail
        obtain ⟨x0, x1, x2⟩ := cell3 HX.out
        have hul := (Array.getElem?_eq_some_iff.1 HX.out).1
        obtain ⟨B1, hB1⟩ : ∃ B1, w5.heap.size = B1 := ⟨_, rfl⟩
        have hpB : p0 < B1 := by rw [← hB1]; exact hul
        obtain ⟨hl16, hpl⟩ := adds_plain (t := t) HCat.out
        refine wp_region_inv (n := 5) (ds := [some 21, some 22, some 23, some 24, some 25, some 26, some 27, some 5]) (need := [[], [], [0, 1], [], [3], [0, 1, 2, 3, 4], [0, 1, 2, 3, 4, 5], [0, 1, 2, 3, 4, 5, 6]]) (R := Bel) (Gs := [
            (EmT B1),
            (fun v _ => v = .slice Al l.length cl),
            (TL wz B1 l),
            (fun v _ => v = TV t.nm A t.cols.length c R t.rows.length d),
            (OneB (tbox t.nm A t.cols.length c R t.rows.length d))])
          (by kernel_rfl) (by kernel_rfl) (by decide) (by kernel_rfl) (by kernel_rfl) (by kernel_rfl) (fun x => Below.refl _ x) (fun _ _ _ h k => bt h k) ?_ ?_
        · refine Each.cons rfl (EmT.keeps _) (StepOk.plain (g := (EmT B1)) rfl rfl rfl (fun a w hs hR hr pre => ?_)) ?_
          · exact wp_emT rfl (by have := (bt (Below.drew (Below.refl _ _)) hR).size; omega)
          refine Each.cons rfl (Keeps.const _) (StepOk.plain (g := (fun v _ => v = .slice Al l.length cl)) rfl rfl rfl (fun a w hs hR hr pre => ?_)) ?_
          · have ep : a.eval (.tmp 0) = .slice Al l.length cl := hr 0 (by decide)
            exact wp_pure (run_move rfl) ep
          refine Each.cons rfl (TL.keeps _ _ _) (StepOk.plain (g := (TL wz B1 l)) rfl rfl rfl (fun a w hs hR hr pre => ?_)) ?_
          · have h21 : EmT B1 (a.eval (.tmp 21)) w := pre 0 (by decide)
            have e22 : a.eval (.tmp 22) = .slice Al l.length cl := pre 1 (by decide)
            exact wp_appT0 rfl h21 e22 (HC.out wz (Below.refl _ _)) (HP.out ▸ (btp HB.out HP.out (bt (Below.drew (Below.refl _ _)) hR))) HAl.out (by omega)
          refine Each.cons rfl (Keeps.const _) (StepOk.plain (g := (fun v _ => v = TV t.nm A t.cols.length c R t.rows.length d)) rfl rfl rfl (fun a w hs hR hr pre => ?_)) ?_
          · have ep : a.eval (.tmp 3) = .pointer (some ⟨p0, 0, none⟩) := hr 3 (by decide)
            exact wp_pure (run_ldT rfl ep ((hR.cell (p := ⟨p0, _, none⟩) hul).trans x0) ((hR.cell (p := ⟨p0, _, none⟩) hul).trans x1) ((hR.cell (p := ⟨p0, _, none⟩) hul).trans x2)) rfl
          refine Each.cons rfl (OneB.keeps _) (StepOk.plain (g := (OneB (tbox t.nm A t.cols.length c R t.rows.length d))) rfl rfl rfl (fun a w hs hR hr pre => ?_)) ?_
          · have e24 : a.eval (.tmp 24) = TV t.nm A t.cols.length c R t.rows.length d := pre 3 (by decide)
            exact wp_made (run_bs1 rfl e24) ⟨_, rfl, heap_alloc_new w _⟩
          exact Each.nil
        · intro v w1 hB hG
          have h2 : TL wz B1 l (v 2) w1 := hG 2 (by decide)
          obtain ⟨g, e4, hg4⟩ : OneB (tbox t.nm A t.cols.length c R t.rows.length d) (v 4) w1 := hG 4 (by decide)
          clear hG
          simp only [List.take_succ_cons, List.take_zero, puts, Act.put, List.setIfInBounds_toArray, List.set_cons_zero, List.set_cons_succ, Nat.reduceAdd, e4]
          have hB6 := btp HB.out HP.out (bt (Below.drew (Below.refl _ _)) hB)
          have hX6 := ((bt (Below.drew (Below.refl _ _)) hB).block p0 hul).trans HX.out
          refine wpAny_next (i := 5) (fuel := 2) (by kernel_rfl) rfl rfl ?_
          refine wp_appT1 rfl (B := B1) (wz := wz) (l := l) (t := t) h2 rfl hg4 (HA.out wz (Below.refl _ _)) (by omega) ?_
          intro v5 w7 hT7 hB7
          have hB8 := hB6.trans (hB7.mono (Nat.le_of_lt hpB))
          have hX8 := (hB7.block p0 hpB).trans hX6
          obtain ⟨A5, c5, rfl, hc5, hn5, hm5⟩ := hT7.ct (HP.out.symm ▸ hB8)
          obtain ⟨b2, hb2⟩ : ∃ b2, catB (l ++ [t]) = b2 := ⟨_, rfl⟩
          obtain ⟨xw, hxw⟩ : ∃ xw : Int, (if b2 = true then (0 : Int) else 130) = xw := ⟨_, rfl⟩
          have hck := catCheck_any A5 c5 (l ++ [t]) w7 hc5 (by rw [List.length_append, List.length_singleton]; omega) (fun x hx => by
            rcases List.mem_append.1 hx with h | h
            · exact HFl.out x h
            · obtain rfl := List.mem_singleton.1 h; exact HF.out) (HT.out _ hB8) hb2
          rw [hxw] at hck
          refine wpAny_next (i := 6) (fuel := 1) (by kernel_rfl) rfl rfl ?_
          refine wp_fnK (vs := #[.slice A5 (l ++ [t]).length c5]) rfl Tryz.func13 (by kernel_rfl) (by kernel_rfl) (by simp only [List.map_toArray, List.map_cons, List.map_nil]; rfl) (hck.mono ?_)
          rintro e w8 ⟨rfl, hb⟩
          refine ⟨_, rfl, ?_⟩
          have HX := Lib.hid ((hb.block p0 (Array.getElem?_eq_some_iff.1 hX8).1).trans hX8)
          have HB := Lib.hid (btp hB8 HP.out hb)
          refine wpAny_next (i := 7) (fuel := 0) (by kernel_rfl) rfl rfl ?_
          refine wp_assign (v := .int .i64 xw) (.tmp 27) rfl rfl ?_
          refine wpAny_done (by kernel_rfl) ?_ _
          simp only [Act.put, List.setIfInBounds_toArray, List.set_cons_zero, List.set_cons_succ]
          have HXw := Lib.hid (xw_zero hxw)
          rw [hpl] at hb2
          have HPl := Lib.hid hb2
          clear hb hck hc5 hn5 hm5 hT7 hB7 hB8 hX8 hB6 hX6 hB h2 hg4 hb2 hxw hpl x0 x1 x2 hul
          clear e4
          obtain ⟨x0, x1, x2⟩ := cell3 HX.out
          go_wp2_with fail
          clear x0 x1 x2
          refine (cfind_any t.nm Al cl l w8 (HC.out _ HB.out) hll (fun t ht => ⟨(HS.out t ht).few.co, (HS.out t ht).few.n, (HS.out t ht).few.l⟩)).mono ?_
          intro e w9 he
          obtain ⟨f, t', A1, R1, c1, d1, rfl, hok, hb, hf0, hf1⟩ := he.one
          have hf : (l.findIdx? (nmIs t.nm)).isSome = f := by
            cases f
            · rw [(hf0 rfl).1]; rfl
            · obtain ⟨k, h1, _⟩ := hf1 rfl; rw [h1]; rfl
          have hpl := HPl.out
          rw [hf] at hpl
          have HPl := Lib.hid hpl
          have hx := ba w9 (tbox t'.nm A1 t'.cols.length c1 R1 t'.rows.length d1)
          have HX := Lib.hid ((hx.block p0 (by have := (Array.getElem?_eq_some_iff.1 HX.out).1; have := hb.size; omega)).trans ((hb.block p0 (Array.getElem?_eq_some_iff.1 HX.out).1).trans HX.out))
          have HB := Lib.hid (btp (btp HB.out HP.out hb) HP.out hx)
          clear he hok hb hf0 hf1 hf hpl hx
          go_upto_region 5 with fail
          generalize w9.alloc (tbox t'.nm A1 t'.cols.length c1 R1 t'.rows.length d1) = w10 at HX HB ⊢
          generalize w9.heap.size = u
          go_wp2_with fail
          refine (lives13_yes w10 (HT.out _ HB.out)).mono ?_
          rintro e w11 ⟨rfl, hb⟩
          have HX := Lib.hid ((hb.block p0 (Array.getElem?_eq_some_iff.1 HX.out).1).trans HX.out)
          have HB := Lib.hid (btp HB.out HP.out hb)
          clear hb
          obtain ⟨tb, htb⟩ : ∃ tb, tabB t = tb := ⟨_, rfl⟩
          have hpl := HPl.out
          rw [htb] at hpl
          have HPl := Lib.hid hpl
          have htt := table_any t A R c d w11 (HA.out _ HB.out) HF.out (HT.out _ HB.out) htb
          obtain ⟨xt, hxt⟩ : ∃ xt : Int, (if tb = true then (0 : Int) else 130) = xt := ⟨_, rfl⟩
          rw [hxt] at htt
          have HTt := Lib.hid htt
          have hz1 := (xw_zero hxt).1
          obtain ⟨hz2, hz3⟩ := HXw.out
          obtain ⟨x0, x1, x2⟩ := cell3 HX.out
          clear htt hxt hpl htb
          cases tb <;> cases f
          all_goals
            by_cases h16 : (l.length : Int) < 16
            all_goals
              have hpl := HPl.out
              first | rw [decide_eq_true (show l.length < 16 by omega)] at hpl | rw [decide_eq_false (show ¬ l.length < 16 by omega)] at hpl
              simp at hpl
              subst hpl
              go_wp2_with fail
              refine HTt.out.mono ?_
              rintro e w12 ⟨rfl, hb⟩
              have HB := Lib.hid (btp HB.out HP.out hb)
              clear hb
              go_wp2_with fail
              go_ret
              first | exact ⟨rfl, HB.out⟩ | exact ⟨(by rw [decide_eq_true h16]; rfl), HB.out⟩ | exact ⟨(by rw [decide_eq_false h16]; rfl), HB.out⟩ | exact ⟨by simp [h16], HB.out⟩
end Go.Proofs.YtmjckdgomlppeaaGreatDoor
end
section
namespace Go.Proofs.YtmjckdgomlppeaaGreatDoor
section
open Go.ChangeShapes Go.WideShapes Go.ChangeAt Go.RowKit Go.Joins Go.Deep
instance : Inhabited Co := ⟨⟨⟨#[]⟩, ⟨#[]⟩, 0⟩⟩
variable {H : Type} {enc : TypeId × Value → H}
theorem ltC_of_cell {w : World} {p : Addr} {v : Value} (h : w.cell? p = some v) : p.block < w.heap.size := by
  rcases Nat.lt_or_ge p.block w.heap.size with hl | hg
  · exact hl
  · rw [World.cell?, Array.getElem?_eq_none hg] at h; cases h
theorem cColX : Tryz.prog.cellsOf 57 = 3 := by kernel_rfl
set_option maxRecDepth 100000 in
theorem open_cols_cells {W : World} {fuel : Nat} {cs : List Value} {x : DataW H × List MemPlace} (h : DataW.trod enc Tryz.prog W 0 (fun _ => true) true fuel 26 cs = some x) :
    ∃ A c r, cs = [.slice A r.length c] ∧ CoAt W A r ∧ r.length ≤ c ∧ c ≤ maxLen ∧ (A = none → c = 0) ∧ (∀ x ∈ r, x.nm.size ≤ maxLen) := by
  rcases open_slice Tryz.underlying26 h with ⟨rfl, _⟩ | ⟨a, len, cap, m, n, D, Pl, rfl, _, hl, hm, hmm, _, hx⟩
  · exact ⟨none, 0, [], rfl, .inl rfl, Nat.le_refl _, Nat.zero_le _, (fun _ => rfl), fun v hv => by cases hv⟩
  · simp only [if_true] at hmm
    subst hmm
    have each : ∀ i, i < len → ∃ v : Co, W.cell? (a.add (i * 3)) = some (.string v.tab) ∧ W.cell? (a.add (i * 3 + 1)) = some (.string v.nm) ∧ W.cell? (a.add (i * 3 + 2)) = some (.int .i64 v.ty) ∧ v.nm.size ≤ maxLen := by
      intro i hi
      obtain ⟨cs', h1, h2⟩ := hx i (by omega)
      rw [cColX] at h1
      obtain ⟨_, hlen, hcell⟩ := World.cells?_some h1
      obtain ⟨y0, y1, y2, n', _, _, g0, g1, g2⟩ := trod_struct3 Tryz.underlying57 h2
      match cs', hlen with
      | [v0, v1, v2], _ =>
        have e0 := hcell 0 (by omega)
        have e1 := hcell 1 (by omega)
        have e2 := hcell 2 (by omega)
        rw [add_add] at e0 e1 e2
        simp [cInt, cStr] at g0 g1 g2
        obtain ⟨s, q0, _, _⟩ := DataW.trod_string Tryz.underlying9 g0
        obtain ⟨s', q1, _, ws⟩ := DataW.trod_string Tryz.underlying9 g1
        obtain ⟨n, q2, _, _⟩ := DataW.trod_int Tryz.underlying3 g2
        simp at q0 q1 q2
        subst q0 q1 q2
        exact ⟨⟨s, s', n⟩, by simpa using e0, by simpa using e1, by simpa using e2, ws⟩
    obtain ⟨f, hf⟩ := choose_lt each
    refine ⟨some a, m, (List.range len).map f, by simp, ?_, by simpa using hl, hm, (fun h => by cases h), ?_⟩
    · rcases Nat.eq_zero_or_pos len with h0 | h0
      · subst h0; exact .inl rfl
      have ha := spot_none (by simpa using (hf 0 h0).1)
      generalize a.block = b at ha
      generalize a.off = o at ha
      subst ha
      refine .inr ⟨b, o, rfl, ?_, fun i v hv => ?_⟩
      · have := ltC_of_cell (hf 0 h0).1
        rw [add_plain] at this
        exact this
      · rw [List.getElem?_map] at hv
        obtain ⟨j, hj, rfl⟩ := Option.map_eq_some_iff.1 hv
        have hj' := List.getElem?_eq_some_iff.1 hj
        obtain ⟨hjl, hje⟩ := hj'
        simp at hje hjl
        subst hje
        obtain ⟨q0, q1, q2, _⟩ := hf i hjl
        simp only [add_plain] at q0 q1 q2
        exact ⟨q0, by rw [Nat.add_assoc]; exact q1, by rw [Nat.add_assoc]; exact q2⟩
    · intro x hx'
      simp only [List.mem_map, List.mem_range] at hx'
      obtain ⟨i, hi, rfl⟩ := hx'
      exact (hf i hi).2.2.2
set_option maxRecDepth 100000 in
theorem open_rows_cells {W : World} {fuel : Nat} {cs : List Value} {x : DataW H × List MemPlace} (hf : DataW.trod enc Tryz.prog W 0 (fun _ => true) true fuel 27 cs = some x) :
    ∃ A c rs, cs = [.slice A rs.length c] ∧ RowsAt W A rs ∧ (∀ r ∈ rs, Fine r) ∧ (∀ r ∈ rs, r.length ≤ 9223372036854775807) ∧ (A = none → c = 0) ∧ rs.length ≤ c ∧ c ≤ maxLen := by
  rcases open_slice Tryz.underlying27 hf with ⟨hcs, _⟩ | ⟨a', len, cap', m, n, D, Pl, hcs, _, hl, hm, hmm, _, hx⟩
  · subst hcs
    exact ⟨none, 0, [], rfl, .inl rfl, (fun v hv => by cases hv), (fun v hv => by cases hv), (fun _ => rfl), Nat.le_refl _, Nat.zero_le _⟩
  · subst hcs
    simp only [if_true] at hmm
    subst hmm
    have each : ∀ i, i < len → ∃ r : List Va, ∃ A c, W.cell? (a'.add i) = some (.slice A r.length c) ∧ RowAt W A r ∧ Fine r ∧ (A = none → c = 0) ∧ r.length ≤ 9223372036854775807 := by
      intro i hi
      obtain ⟨cs', h1, h2⟩ := hx i (by omega)
      rw [cRow] at h1
      obtain ⟨_, hlen, hcell⟩ := World.cells?_some h1
      obtain ⟨A, c, r, hcs', hr, hfi, hA, hlc, hcm⟩ := open_row_cells h2
      subst hcs'
      have e0 := hcell 0 (by omega)
      rw [add_add] at e0
      simp only [maxLen] at hcm
      exact ⟨r, A, c, by simpa using e0, hr, hfi, hA, by omega⟩
    obtain ⟨f, hf⟩ := choose_lt each
    refine ⟨some a', m, (List.range len).map f, by simp, ?_, ?_, ?_, (fun hh => by cases hh), by simpa using hl, hm⟩
    · rcases Nat.eq_zero_or_pos len with h0 | h0
      · subst h0; exact .inl rfl
      · obtain ⟨A0, c0, hc0, _⟩ := hf 0 h0
        have ha := spot_none (by simpa using hc0)
        generalize a'.block = b at ha
        generalize a'.off = o at ha
        subst ha
        refine .inr ⟨b, o, rfl, ?_, fun i r hr => ?_⟩
        · have := lt_cell hc0
          rw [add_plain] at this
          exact this
        · rw [List.getElem?_map] at hr
          obtain ⟨j, hj, rfl⟩ := Option.map_eq_some_iff.1 hr
          obtain ⟨hjl, hje⟩ := List.getElem?_eq_some_iff.1 hj
          simp at hje hjl
          subst hje
          obtain ⟨A, c, hc, hrow, _, hA, _⟩ := hf i hjl
          rw [add_plain] at hc
          exact ⟨A, c, hc, hrow, hA⟩
    · intro r hr
      simp only [List.mem_map, List.mem_range] at hr
      obtain ⟨i, hi, rfl⟩ := hr
      obtain ⟨A, c, _, _, hfi, _⟩ := hf i hi
      exact hfi
    · intro r hr
      simp only [List.mem_map, List.mem_range] at hr
      obtain ⟨i, hi, rfl⟩ := hr
      obtain ⟨A, c, _, _, _, _, hle⟩ := hf i hi
      exact hle
theorem cTabX : Tryz.prog.cellsOf 29 = 3 := by kernel_rfl
theorem cColsX : Tryz.prog.cellsOf 26 = 1 := by kernel_rfl
theorem cRowsX : Tryz.prog.cellsOf 27 = 1 := by kernel_rfl
set_option maxRecDepth 100000 in
theorem open_tab_cells {W : World} {fuel : Nat} {v0 v1 v2 : Value} {x : DataW H × List MemPlace} (h2 : DataW.trod enc Tryz.prog W 0 (fun _ => true) true fuel 29 [v0, v1, v2] = some x) :
    ∃ t A c B d, v0 = .string t.nm ∧ v1 = .slice A t.cols.length c ∧ v2 = .slice B t.rows.length d ∧ TaOk W t A c B d ∧ FineT t := by
  obtain ⟨y0, y1, y2, n', _, _, g0, g1, g2⟩ := trod_struct3 Tryz.underlying29 h2
  simp [cStr, cColsX, cRowsX] at g0 g1 g2
  obtain ⟨s, q0, _, ws⟩ := DataW.trod_string Tryz.underlying9 g0
  obtain ⟨A, c, cols, q1, hco, hcl, hcm, hcn, hcf⟩ := open_cols_cells g1
  obtain ⟨B, d, rs, q2, hro, hfi, hle, hrn, hrl, hrm⟩ := open_rows_cells g2
  simp at q0 q1 q2
  refine ⟨⟨s, cols, rs⟩, A, c, B, d, q0, q1, q2, ⟨hco, hcl, by unfold maxLen at hcm; omega, hcn, hro, hrl, by unfold maxLen at hrm; omega, hrn⟩, ⟨ws, hcf, hfi, hle⟩⟩
instance : Inhabited Ta := ⟨⟨⟨#[]⟩, [], []⟩⟩
set_option maxRecDepth 100000 in
theorem open_tabs {W : World} {base : Nat} {v : Value} {d : DataW H} {p : List MemPlace} (hval : Value.okWide Tryz.prog W .any base 22 v) (h : DataW.Trod enc Tryz.prog W 0 (fun _ => true) true 22 v d p) :
    ∃ A c l, v = .slice A l.length c ∧ CtAt W A l ∧ (∀ t ∈ l, FineT t) ∧ l.length ≤ c ∧ c ≤ 9223372036854775807 ∧ (A = none → c = 0) := by
  obtain ⟨a, len, cap, rfl⟩ := okWide_slice Tryz.underlying22 hval
  obtain ⟨fuel, hf⟩ := h
  rcases open_slice Tryz.underlying22 hf with ⟨hcs, _⟩ | ⟨a', len', cap', m, n, D, Pl, hcs, _, hl, hm, hmm, _, hx⟩
  · simp [Value.cells] at hcs
    obtain ⟨rfl, rfl, rfl⟩ := hcs
    exact ⟨none, 0, [], rfl, .inl rfl, (fun v hv => by cases hv), Nat.le_refl _, Nat.zero_le _, fun _ => rfl⟩
  · simp [Value.cells] at hcs
    obtain ⟨rfl, rfl, rfl⟩ := hcs
    simp only [if_true] at hmm
    subst hmm
    have each : ∀ i, i < len → ∃ t : Ta, ∃ A c B d, W.cell? (a'.add (i * 3)) = some (.string t.nm) ∧ W.cell? (a'.add (i * 3 + 1)) = some (.slice A t.cols.length c) ∧ W.cell? (a'.add (i * 3 + 2)) = some (.slice B t.rows.length d) ∧ TaOk W t A c B d ∧ FineT t := by
      intro i hi
      obtain ⟨cs', h1, h2⟩ := hx i (by omega)
      rw [cTabX] at h1
      obtain ⟨_, hlen, hcell⟩ := World.cells?_some h1
      match cs', hlen with
      | [v0, v1, v2], _ =>
        have e0 := hcell 0 (by omega)
        have e1 := hcell 1 (by omega)
        have e2 := hcell 2 (by omega)
        rw [add_add] at e0 e1 e2
        obtain ⟨t, A, c, B, d, rfl, rfl, rfl, hok, hfi⟩ := open_tab_cells h2
        exact ⟨t, A, c, B, d, by simpa using e0, by simpa using e1, by simpa using e2, hok, hfi⟩
    obtain ⟨f, hf⟩ := choose_lt each
    refine ⟨some a', m, (List.range len).map f, by simp, ?_, ?_, by simpa using hl, (by unfold maxLen at hm; omega), fun hh => by cases hh⟩
    · rcases Nat.eq_zero_or_pos len with h0 | h0
      · subst h0; exact .inl rfl
      · obtain ⟨A0, c0, B0, d0, hc0, _⟩ := hf 0 h0
        have ha := spot_none (by simpa using hc0)
        generalize a'.block = b at ha
        generalize a'.off = o at ha
        subst ha
        refine .inr ⟨b, o, rfl, ?_, fun i t ht => ?_⟩
        · have := ltC_of_cell hc0
          rw [add_plain] at this
          exact this
        · rw [List.getElem?_map] at ht
          obtain ⟨j, hj, rfl⟩ := Option.map_eq_some_iff.1 ht
          obtain ⟨hjl, hje⟩ := List.getElem?_eq_some_iff.1 hj
          simp at hje hjl
          subst hje
          obtain ⟨A, c, B, d, q0, q1, q2, hok, _⟩ := hf i hjl
          simp only [add_plain] at q0 q1 q2
          exact ⟨A, c, B, d, q0, by rw [Nat.add_assoc]; exact q1, by rw [Nat.add_assoc]; exact q2, hok⟩
    · intro t ht
      simp only [List.mem_map, List.mem_range] at ht
      obtain ⟨i, hi, rfl⟩ := ht
      obtain ⟨A, c, B, d, _, _, _, _, hfi⟩ := hf i hi
      exact hfi
end
end Go.Proofs.YtmjckdgomlppeaaGreatDoor
end
section
namespace Go.Proofs.YtmjckdgomlppeaaGreatDoor
section
open Go.ChangeShapes Go.WideShapes Go.ChangeAt Go.RowKit

theorem own : ownKnob Tryz.prog.godebug = none := by kernel_rfl
theorem laidOut : laidOutB Tryz.prog = true := by kernel_rfl
theorem gKeys : Tryz.prog.globalNamed "commissary/lex.keys" = some 2 := by kernel_rfl
theorem gSigns : Tryz.prog.globalNamed "commissary/lex.signs" = some 0 := by kernel_rfl
theorem tKeys : (Tryz.prog.globals[2]?).map (·.type) = some 144 := by kernel_rfl
theorem tSigns : (Tryz.prog.globals[0]?).map (·.type) = some 140 := by kernel_rfl

/-- A table of texts, cell by cell. -/
theorem cellsStr {W : World} {name : String} {g n : Nat} {t : TypeId} {L : List Lx.B} (hg : Tryz.prog.globalNamed name = some g) (ht : (Tryz.prog.globals[g]?).map (·.type) = some t) (hu : Tryz.prog.underlying t = some (.array n 9))
    (h : Lib.VarReads Tryz.prog W name (.agg (L.map fun b => .lit (.string b)))) (j : Nat) (b : Lx.B) (hj : j < n) (hb : L[j]? = some b) : W.cell? ⟨g, j, none⟩ = some (.string ⟨b.toArray⟩) := by
  obtain ⟨g', t', cs, fuel, p, hg', ht', hv, hd⟩ := h
  obtain rfl := Option.some.inj (hg.symm.trans hg')
  obtain rfl := Option.some.inj (ht.symm.trans ht')
  obtain ⟨fuel', d, q, hdd, hdr⟩ := Lib.array_elem hu hd j hj
  rw [List.getElem?_map, hb] at hdd
  obtain rfl := Option.some.inj hdd
  obtain ⟨s, hc, hx, _⟩ := DataW.trod_string Tryz.underlying9 hdr
  have hs : b = s.data.toList := by
    have := congrArg Prod.fst hx
    simpa using this
  have h1 : cs.toList[j]? = some (.string s) := by
    have := congrArg (·[0]?) hc
    simpa [List.getElem?_take, List.getElem?_drop, cStr] using this
  rw [World.var?_cell hg hv, ← Array.getElem?_toList, h1, hs]

/-- The list that the rows bear. -/
abbrev listed : List (String × DataW Unit) := Rows.catalogChecksRow.laid
theorem keys_laid : (Rows.laid_commissary_lex_keys : DataW Unit) = .agg (Lx.keys.map fun b => .lit (.string b)) := by kernel_rfl
theorem signs_laid : (Rows.laid_commissary_lex_signs : DataW Unit) = .agg (Lx.signs.map fun b => .lit (.string b)) := by kernel_rfl
theorem tabs_of {W : World} (h : laidMetH Tryz.prog listed W) (hs : W.ShapedOpen Tryz.prog) : Tabs W := by
  have hL : laidMet Tryz.prog listed W := h
  have rs : Lib.VarReads Tryz.prog W "commissary/lex.signs" Rows.laid_commissary_lex_signs := Lib.laidMet.reads hL (.head _)
  have rk : Lib.VarReads Tryz.prog W "commissary/lex.keys" Rows.laid_commissary_lex_keys := Lib.laidMet.reads hL (.tail _ (.head _))
  rw [signs_laid] at rs
  rw [keys_laid] at rk
  have hm : ∃ m, W.cell? ⟨1, 0, none⟩ = some (.int .i64 m) :=
    cell_of_shapedOpen_int (t := 3) (zero := #[.int .i64 0]) hs (of_decide_eq_true (by kernel_rfl)) (by kernel_rfl) rfl (by kernel_rfl) (by kernel_rfl) Tryz.underlying3
  exact ⟨fun j b hb => cellsStr gKeys tKeys Tryz.underlying144 rk j b (by have := (List.getElem?_eq_some_iff.1 hb).1; rwa [keys_len] at this) hb,
    fun j b hb => cellsStr gSigns tSigns Tryz.underlying140 rs j b (List.getElem?_eq_some_iff.1 hb).1 hb, hm⟩

/-- A WORLD FOR THE WITNESS: the settled one, each listed table holding what its initialiser lays. -/
noncomputable def laidWorld (os : Os) : World :=
  let w0 := World.holding Tryz.prog os ⟨#[], #[], []⟩
  let put (h : Array Obj) (g : Nat) (cs : Array Value) : Array Obj := h.modify g fun
    | .cells _ t frozen => .cells cs t frozen
    | o => o
  let ofData (d : DataW Unit) : Array Value := match d with
    | .agg l => (l.flatMap fun
        | .lit (.string b) => [Value.string ⟨b.toArray⟩]
        | _ => []).toArray
    | _ => #[]
  let h1 := put w0.heap 2 (ofData Rows.laid_commissary_lex_keys)
  let h2 := put h1 0 (ofData Rows.laid_commissary_lex_signs)
  { w0 with heap := h2 }

set_option maxRecDepth 100000 in
theorem laid_met (os : Os) (args : Array Value) : laidMetH Tryz.prog listed ((laidWorld os).forCall (fun _ _ => 0) ⟨#[], args, []⟩).memory :=
  laidMetH_of_parts (laidMet_of_run' 8 (by kernel_rfl) (by kernel_rfl)) (by kernel_rfl)
end
end Go.Proofs.YtmjckdgomlppeaaGreatDoor
end
section
namespace Go.Proofs.YtmjckdgomlppeaaGreatDoor
open Go.ChangeShapes Go.WideShapes Go.ChangeAt Go.RowKit Go.Joins Go.Deep
variable {H : Type} {enc : TypeId × Value → H}

theorem len_size (s : ByteArray) : s.data.toList.length = s.size := by cases s; rfl
def nmSum (l : List Co) : Nat := (l.map fun c => c.nm.size + 1).sum
theorem sum_bulk (f : Nat → Co) (D : Nat → DataW H) : ∀ (L : List Nat), (∀ i ∈ L, (f i).nm.size + 1 ≤ Rows.uptoBulk (D i)) → ((L.map f).map fun c => c.nm.size + 1).sum ≤ Rows.uptoBulkAll (L.map D)
  | [], _ => Nat.zero_le _
  | i :: L, h => by
    have h1 := h i (List.mem_cons_self ..)
    have h2 := sum_bulk f D L fun j hj => h j (List.mem_cons_of_mem _ hj)
    simp only [List.map_cons, List.sum_cons, Rows.uptoBulkAll]
    omega
set_option maxRecDepth 100000 in
theorem open_cols_bulk {W : World} {fuel : Nat} {cs : List Value} {x : DataW H × List MemPlace} (h : DataW.trod enc Tryz.prog W 0 (fun _ => true) true fuel 26 cs = some x) :
    ∃ A c r, cs = [.slice A r.length c] ∧ CoAt W A r ∧ r.length ≤ c ∧ c ≤ maxLen ∧ (A = none → c = 0) ∧ (∀ x ∈ r, x.nm.size ≤ maxLen) ∧ nmSum r ≤ Rows.uptoBulk x.1 := by
  rcases open_slice Tryz.underlying26 h with ⟨rfl, _⟩ | ⟨a, len, cap, m, n, D, Pl, rfl, _, hl, hm, hmm, hxe, hx⟩
  · exact ⟨none, 0, [], rfl, .inl rfl, Nat.le_refl _, Nat.zero_le _, (fun _ => rfl), (fun v hv => by cases hv), Nat.zero_le _⟩
  · simp only [if_true] at hmm
    subst hmm
    have each : ∀ i, i < len → ∃ v : Co, W.cell? (a.add (i * 3)) = some (.string v.tab) ∧ W.cell? (a.add (i * 3 + 1)) = some (.string v.nm) ∧ W.cell? (a.add (i * 3 + 2)) = some (.int .i64 v.ty) ∧ v.nm.size ≤ maxLen ∧ v.nm.size + 1 ≤ Rows.uptoBulk (D i) := by
      intro i hi
      obtain ⟨cs', h1, h2⟩ := hx i (by omega)
      rw [cColX] at h1
      obtain ⟨_, hlen, hcell⟩ := World.cells?_some h1
      obtain ⟨y0, y1, y2, n', hxd, _, g0, g1, g2⟩ := trod_struct3 Tryz.underlying57 h2
      match cs', hlen with
      | [v0, v1, v2], _ =>
        have e0 := hcell 0 (by omega)
        have e1 := hcell 1 (by omega)
        have e2 := hcell 2 (by omega)
        rw [add_add] at e0 e1 e2
        simp [cInt, cStr] at g0 g1 g2
        obtain ⟨s, q0, _, _⟩ := DataW.trod_string Tryz.underlying9 g0
        obtain ⟨s', q1, hs1, ws⟩ := DataW.trod_string Tryz.underlying9 g1
        obtain ⟨n, q2, _, _⟩ := DataW.trod_int Tryz.underlying3 g2
        simp at q0 q1 q2
        subst q0 q1 q2
        exact ⟨⟨s, s', n⟩, by simpa using e0, by simpa using e1, by simpa using e2, ws, by
          simp only [Prod.mk.injEq] at hxd
          rw [hxd.1]
          simp only [Rows.uptoBulk, Rows.uptoBulkAll, hs1]
          have := len_size s'
          omega⟩
    obtain ⟨f, hf⟩ := choose_lt each
    refine ⟨some a, m, (List.range len).map f, by simp, ?_, by simpa using hl, hm, (fun h => by cases h), ?_, ?_⟩
    · rcases Nat.eq_zero_or_pos len with h0 | h0
      · subst h0; exact .inl rfl
      have ha := spot_none (by simpa using (hf 0 h0).1)
      generalize a.block = b at ha
      generalize a.off = o at ha
      subst ha
      refine .inr ⟨b, o, rfl, ?_, fun i v hv => ?_⟩
      · have := ltC_of_cell (hf 0 h0).1
        rw [add_plain] at this
        exact this
      · rw [List.getElem?_map] at hv
        obtain ⟨j, hj, rfl⟩ := Option.map_eq_some_iff.1 hv
        have hj' := List.getElem?_eq_some_iff.1 hj
        obtain ⟨hjl, hje⟩ := hj'
        simp at hje hjl
        subst hje
        obtain ⟨q0, q1, q2, _⟩ := hf i hjl
        simp only [add_plain] at q0 q1 q2
        exact ⟨q0, by rw [Nat.add_assoc]; exact q1, by rw [Nat.add_assoc]; exact q2⟩
    · intro x hx'
      simp only [List.mem_map, List.mem_range] at hx'
      obtain ⟨i, hi, rfl⟩ := hx'
      exact (hf i hi).2.2.2.1
    · rw [hxe]
      simp only [Rows.uptoBulk]
      have := sum_bulk f D (List.range len) (fun i hi => (hf i (by simpa using hi)).2.2.2.2)
      simp only [nmSum]
      omega

theorem nm_le_sum {l : List Co} {c : Co} (h : c ∈ l) : c.nm.size + 1 ≤ nmSum l := by
  induction l with
  | nil => cases h
  | cons x l ih =>
    simp only [nmSum, List.map_cons, List.sum_cons] at ih ⊢
    rcases List.mem_cons.1 h with rfl | h
    · omega
    · have := ih h; omega
theorem join_len_le (sep : List UInt8) : ∀ (l : List (List UInt8)), (Lib.join l sep).length ≤ (l.map fun x => x.length + sep.length).sum
  | [] => by simp [Lib.join]
  | [x] => by simp [Lib.join]
  | x :: y :: l => by
    have h := join_len_le sep (y :: l)
    simp only [Lib.join, List.intercalate, List.intersperse_cons_cons, List.flatten_cons, List.length_append, List.map_cons, List.sum_cons] at h ⊢
    omega
theorem join_bound (l : List Co) : (Lib.join (l.map fun c => (colS c).data.toList) [44, 32]).length ≤ 8 * nmSum l := by
  refine Nat.le_trans (join_len_le _ _) ?_
  induction l with
  | nil => exact Nat.zero_le _
  | cons c l ih =>
    have h1 : (colS c).data.toList.length ≤ c.nm.size + 5 := by
      have h2 := typW_size c.ty
      have h3 : (colS c).size = c.nm.size + 1 + ByteArray.size ⟨(typW c.ty).toArray⟩ := by
        unfold colS; rw [ByteArray.size_append, ByteArray.size_append]; rfl
      have h4 : (colS c).data.toList.length = (colS c).size := len_size _
      omega
    simp only [nmSum, List.map_cons, List.sum_cons, List.length_cons, List.length_nil] at ih ⊢
    omega
set_option maxRecDepth 100000 in
theorem open_tab {W : World} {base : Nat} {v : Value} {dt : DataW H} {p : List MemPlace} (hval : Value.okWide Tryz.prog W .any base 29 v) (h : DataW.Trod enc Tryz.prog W 0 (fun _ => true) true 29 v dt p) :
    ∃ t A c B d, v = TV t.nm A t.cols.length c B t.rows.length d ∧ TaOk W t A c B d ∧ FineT t ∧ t.nm.size ≤ Rows.uptoBulk dt ∧ nmSum t.cols ≤ Rows.uptoBulk dt := by
  obtain ⟨cs, rfl, hsz⟩ := okWide_struct Tryz.underlying29 hval
  obtain ⟨fuel, hf⟩ := h
  match cs, hsz.trans cTabX with
  | ⟨[v0, v1, v2]⟩, _ =>
    have h2 : DataW.trod enc Tryz.prog W 0 (fun _ => true) true fuel 29 [v0, v1, v2] = some (dt, p) := by simpa [Value.cells] using hf
    obtain ⟨y0, y1, y2, n', hxd, _, g0, g1, g2⟩ := trod_struct3 Tryz.underlying29 h2
    simp [cStr, cColsX, cRowsX] at g0 g1 g2
    obtain ⟨s, q0, hs0, ws⟩ := DataW.trod_string Tryz.underlying9 g0
    obtain ⟨A, c, cols, q1, hco, hcl, hcm, hcn, hcf, hbk⟩ := open_cols_bulk g1
    obtain ⟨B, d, rs, q2, hro, hfi, hle, hrn, hrl, hrm⟩ := open_rows_cells g2
    simp at q0 q1 q2
    subst q0 q1 q2
    simp only [Prod.mk.injEq] at hxd
    refine ⟨⟨s, cols, rs⟩, A, c, B, d, rfl, ⟨hco, hcl, by unfold maxLen at hcm; omega, hcn, hro, hrl, by unfold maxLen at hrm; omega, hrn⟩, ⟨ws, hcf, hfi, hle⟩, ?_, ?_⟩
    · rw [hxd.1]
      simp only [Rows.uptoBulk, Rows.uptoBulkAll, hs0]
      have := len_size s
      omega
    · rw [hxd.1]
      simp only [Rows.uptoBulk, Rows.uptoBulkAll]
      omega
end Go.Proofs.YtmjckdgomlppeaaGreatDoor
end
