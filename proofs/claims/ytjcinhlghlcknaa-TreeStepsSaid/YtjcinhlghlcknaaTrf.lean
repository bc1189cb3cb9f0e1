/-
  Package tree: the laws' lives.
-/
import Derived.Test.YtjcinhlghlcknaaTre
namespace Go.Proofs.Ytjcinhlghlcknaa
open Go.RowKit

/-- The three leaves of lives, step by step. -/
def lA : List Lf := [noLf, noLf, noLf]
def lB : List Lf := [noLf, ⟨5, 0, true⟩, noLf]
def lC : List Lf := [noLf, ⟨5, 0, true⟩, ⟨4, 0, true⟩]
theorem wn_A : isW lA 0 lA.length (-1) := by
  have h := wnr_is lA
  rwa [show wnr lA = -1 from rfl] at h
theorem wn_C : isW lC 0 lC.length 2 := by
  have h := wnr_is lC
  rwa [show wnr lC = 2 from rfl] at h
theorem wn_B : isW lB 0 lB.length 1 := by
  have h := wnr_is lB
  rwa [show wnr lB = 1 from rfl] at h
/-- The two lists of lives, and what they merged are. -/
def lsL : List (List Pr) := [[⟨1, 0⟩, ⟨3, 1⟩], [⟨2, 0⟩, ⟨3, 2⟩]]
def outL : List Pr := [⟨1, 0⟩, ⟨2, 0⟩, ⟨3, 1⟩, ⟨3, 2⟩]
theorem mgdL : Mgd lsL outL := ⟨[[], []], by unfold MR; rfl, rfl⟩
/-- A tree of lives: its blocks at or above B. -/
def TL (B : Nat) (w : World) (t a b : Nat) (L : List Lf) : Prop := T8 plainO B w t a b L 4 2 0
section
variable {B : Nat} {w w' : World} {t a b : Nat} {L : List Lf}
theorem TL.kept (h : TL B w t a b L) (hb : Below w.heap.size w w') : TL B w' t a b L := T8.kept plainO_ok h hb
theorem TL.lt (h : TL B w t a b L) : B ≤ w.heap.size := T8.lt h
theorem SetE.tl {c r : Int} {e : Ending} (h : SetE plainO B w t a b L 4 2 c r e w') (hlo : B ≤ a ∧ B ≤ b) (hB : B ≤ w.heap.size) : e = .returned (.int .i64 r) ∧ TL B w' t a b L ∧ Below B w w' := by
  obtain ⟨he, ho, c', ht, _, _⟩ := h
  exact ⟨he, ht.zero, ho.belowT hlo.1 hlo.2 hB⟩
theorem tl_new (w : World) : Calls Try.prog 8 #[.int .i64 3, ovP] w fun e w' => (∃ t a b, e = .returned (.tuple #[.pointer (some ⟨t, 0, none⟩), .int .i64 0]) ∧ TL w.heap.size w' t a b lA) ∧ Below w.heap.size w w' := by
  refine (new_in plainO_ok (c := 0) (w := w) (n := 3) (Int.le_refl _) (show plainO.ov = .func (.func 9) #[] #[] from rfl) (by omega) (by omega)).mono ?_
  rintro e w' ⟨t, a, b, he, ht, hb⟩
  exact ⟨⟨t, a, b, he, ht⟩, hb⟩
theorem tl_new_nil (w : World) : Calls Try.prog 8 #[.int .i64 3, .nilFunc] w fun e w' => e = .returned (.tuple #[.pointer none, .int .i64 1]) ∧ w = w' := new_nil 3
theorem tl_set1 (h : TL B w t a b lA) : Calls Try.prog 11 #[.pointer (some ⟨t, 0, none⟩), .int .i64 1, .agg #[.int .i64 5, .int .i64 0]] w fun e w' => e = .returned (.int .i64 0) ∧ TL B w' t a b lB ∧ Below B w w' :=
  (set_in plainO_ok h (by omega) (i := 1) (by decide) 5 0).mono fun _ _ hh => hh.tl (T8.lo h).2 h.lt
theorem tl_set2 (h : TL B w t a b lB) : Calls Try.prog 11 #[.pointer (some ⟨t, 0, none⟩), .int .i64 2, .agg #[.int .i64 4, .int .i64 0]] w fun e w' => e = .returned (.int .i64 0) ∧ TL B w' t a b lC ∧ Below B w w' :=
  (set_in plainO_ok h (by omega) (i := 2) (by decide) 4 0).mono fun _ _ hh => hh.tl (T8.lo h).2 h.lt
theorem tl_set3 (h : TL B w t a b lC) : Calls Try.prog 11 #[.pointer (some ⟨t, 0, none⟩), .int .i64 3, .agg #[.int .i64 0, .int .i64 0]] w fun e w' => e = .returned (.int .i64 4) ∧ Below w.heap.size w w' :=
  set_out h (.inr (by decide)) 0 0
theorem tl_clear (h : TL B w t a b lC) : Calls Try.prog 12 #[.pointer (some ⟨t, 0, none⟩), .int .i64 2] w fun e w' => e = .returned (.int .i64 0) ∧ TL B w' t a b lB ∧ Below B w w' :=
  (clear_in plainO_ok h (by omega) (i := 2) (by decide)).mono fun _ _ hh => hh.tl (T8.lo h).2 h.lt
theorem TL.box (h : TL B w t a b lC) (ho : Ofs (TS plainO a b) w w') {x : Nat} {u v : Value} (hx : w.heap[x]? = some (.cells #[u, v] 28 (0, 0))) : w'.heap[x]? = some (.cells #[u, v] 28 (0, 0)) := by
  obtain ⟨W, hT, _⟩ := T8.at' h
  refine (ho.block x (block_ltT hx) (fun hk => ?_)).trans hx
  rcases hk with rfl | rfl | hk
  · rw [hT.things] at hx
    simp [thC, lC, noLf] at hx
  · rw [hT.wins] at hx; simp at hx
  · exact hk
theorem tl_clear2 (h : TL B w t a b lC) {x y : Nat} {u v u' v' : Value} (hx : w.heap[x]? = some (.cells #[u, v] 28 (0, 0))) (hy : w.heap[y]? = some (.cells #[u', v'] 28 (0, 0))) :
    Calls Try.prog 12 #[.pointer (some ⟨t, 0, none⟩), .int .i64 2] w fun e w' => e = .returned (.int .i64 0) ∧ TL B w' t a b lB ∧ Below B w w' ∧ w'.heap[x]? = some (.cells #[u, v] 28 (0, 0)) ∧ w'.heap[y]? = some (.cells #[u', v'] 28 (0, 0)) :=
  (clear_in plainO_ok h (by omega) (i := 2) (by decide)).mono fun _ _ hh => by
    obtain ⟨he, ht, hb⟩ := SetE.tl hh (T8.lo h).2 h.lt
    exact ⟨he, ht, hb, h.box hh.2.1 hx, h.box hh.2.1 hy⟩
theorem tl_winA (h : TL B w t a b lA) : Calls Try.prog 21 #[.pointer (some ⟨t, 0, none⟩)] w fun e w' => e = .returned (.tuple #[.int .i64 (-1), .agg #[.int .i64 0, .int .i64 0], .bool false]) ∧ Below w.heap.size w w' := win_none h wn_A
theorem tl_winC (h : TL B w t a b lC) : Calls Try.prog 21 #[.pointer (some ⟨t, 0, none⟩)] w fun e w' => e = .returned (.tuple #[.int .i64 2, .agg #[.int .i64 4, .int .i64 0], .bool true]) ∧ Below w.heap.size w w' := win_some (i := 2) h wn_C
theorem tl_winB (h : TL B w t a b lB) : Calls Try.prog 21 #[.pointer (some ⟨t, 0, none⟩)] w fun e w' => e = .returned (.tuple #[.int .i64 1, .agg #[.int .i64 5, .int .i64 0], .bool true]) ∧ Below w.heap.size w w' := win_some (i := 1) h wn_B
theorem tl_get (h : TL B w t a b lC) : Calls Try.prog 22 #[.pointer (some ⟨t, 0, none⟩), .int .i64 1] w fun e w' => e = .returned (.tuple #[.agg #[.int .i64 5, .int .i64 0], .bool true]) ∧ Below w.heap.size w w' := get_some (i := 1) h (by decide) rfl
theorem tl_len (h : TL B w t a b lB) : Calls Try.prog 23 #[.pointer (some ⟨t, 0, none⟩)] w fun e w' => e = .returned (.int .i64 1) ∧ Below w.heap.size w w' := len_any plainO_ok h
theorem tl_leaves (h : TL B w t a b lB) : Calls Try.prog 24 #[.pointer (some ⟨t, 0, none⟩)] w fun e w' => e = .returned (.int .i64 3) ∧ w = w' := by
  obtain ⟨W, hT, _⟩ := h.at'
  exact leaves_any hT (by decide)
theorem tl_steps (w : World) : Calls Try.prog 18 #[.int .i64 5] w fun e w' => e = .returned (.int .i64 3) ∧ w = w' := steps_any 5 w
/-- The three blocks of lives' lists. -/
def lsW (w : World) : World :=
  ((w.alloc (.cells #[.int .i64 1, .int .i64 0, .int .i64 3, .int .i64 1] 28)).alloc (.cells #[.int .i64 2, .int .i64 0, .int .i64 3, .int .i64 2] 28)).alloc (.cells #[.slice (some ⟨w.heap.size, 0, none⟩) 2 2, .slice (some ⟨w.heap.size + 1, 0, none⟩) 2 2] 42)
theorem lsW_below (w : World) : Below w.heap.size w (lsW w) := by
  unfold lsW
  exact (ba2 w _ _).trans ((ba _ _).mono (by simp; omega))
theorem pair2_at {U : Nat} {w : World} {b : Nat} {k1 t1 k2 t2 : Int} (h : w.heap[b]? = some (.cells #[.int .i64 k1, .int .i64 t1, .int .i64 k2, .int .i64 t2] 28 (0, 0))) (hb : b < U) (hU : U ≤ w.heap.size) : PV U w (.slice (some ⟨b, 0, none⟩) 2 2) [⟨k1, t1⟩, ⟨k2, t2⟩] := by
  refine ⟨_, 2, rfl, by simp, by decide, .inr ⟨b, 0, rfl, hb, hU, fun i p hp => ?_⟩⟩
  match i, hp with
  | 0, hp => cases hp; exact ⟨by simp [World.cell?, h], by simp [World.cell?, h]⟩
  | 1, hp => cases hp; exact ⟨by simp [World.cell?, h], by simp [World.cell?, h]⟩
theorem lsW_at (w : World) : LsAt (lsW w).heap.size (lsW w) (some ⟨w.heap.size + 1 + 1, 0, none⟩) lsL := by
  have h1 := (MapKept.heap_alloc w (.cells #[.int .i64 1, .int .i64 0, .int .i64 3, .int .i64 1] 28)).1
  generalize hw1 : w.alloc (.cells #[.int .i64 1, .int .i64 0, .int .i64 3, .int .i64 1] 28) = w1 at h1
  have s1 : w1.heap.size = w.heap.size + 1 := by rw [← hw1, World.size_alloc]
  have h2 := (MapKept.heap_alloc w1 (.cells #[.int .i64 2, .int .i64 0, .int .i64 3, .int .i64 2] 28)).1
  have h1' := ((ba w1 (.cells #[.int .i64 2, .int .i64 0, .int .i64 3, .int .i64 2] 28)).block w.heap.size (by omega)).trans h1
  generalize hw2 : w1.alloc (.cells #[.int .i64 2, .int .i64 0, .int .i64 3, .int .i64 2] 28) = w2 at h2 h1'
  have s2 : w2.heap.size = w.heap.size + 1 + 1 := by rw [← hw2, World.size_alloc, s1]
  have hw3 : lsW w = w2.alloc (.cells #[.slice (some ⟨w.heap.size, 0, none⟩) 2 2, .slice (some ⟨w.heap.size + 1, 0, none⟩) 2 2] 42) := by unfold lsW; rw [hw1, hw2]
  rw [hw3]
  have h3 := (MapKept.heap_alloc w2 (.cells #[.slice (some ⟨w.heap.size, 0, none⟩) 2 2, .slice (some ⟨w.heap.size + 1, 0, none⟩) 2 2] 42)).1
  have hb := ba w2 (.cells #[.slice (some ⟨w.heap.size, 0, none⟩) 2 2, .slice (some ⟨w.heap.size + 1, 0, none⟩) 2 2] 42)
  have s3 : (w2.alloc (.cells #[.slice (some ⟨w.heap.size, 0, none⟩) 2 2, .slice (some ⟨w.heap.size + 1, 0, none⟩) 2 2] 42)).heap.size = w.heap.size + 1 + 1 + 1 := by rw [World.size_alloc, s2]
  rw [s1] at h2
  rw [s2] at h3
  have g1 := (hb.block _ (by omega)).trans h1'
  have g2 := (hb.block _ (by omega)).trans h2
  generalize w2.alloc (.cells #[.slice (some ⟨w.heap.size, 0, none⟩) 2 2, .slice (some ⟨w.heap.size + 1, 0, none⟩) 2 2] 42) = w3 at h3 s3 g1 g2
  refine .inr ⟨w.heap.size + 1 + 1, 0, [.slice (some ⟨w.heap.size, 0, none⟩) 2 2, .slice (some ⟨w.heap.size + 1, 0, none⟩) 2 2], rfl, by omega, Nat.le_refl _, ⟨rfl, fun j v r hv hr => ?_⟩, fun i v hv => ?_⟩
  · match j, hv, hr with
    | 0, hv, hr => cases hv; cases hr; exact pair2_at g1 (by omega) (Nat.le_refl _)
    | 1, hv, hr => cases hv; cases hr; exact pair2_at g2 (by omega) (Nat.le_refl _)
  · match i, hv with
    | 0, hv => cases hv; simp only [World.cell?, h3]; rfl
    | 1, hv => cases hv; simp only [World.cell?, h3]; rfl
theorem tl_merge (w : World) : Calls Try.prog 15 #[.slice (some ⟨w.heap.size + 1 + 1, 0, none⟩) 2 2, ovP] (lsW w) fun e w' => (∃ g cap, e = .returned (.tuple #[.slice (some ⟨g, 0, none⟩) 4 cap, .int .i64 0]) ∧ g < w'.heap.size ∧ w'.cell? ⟨g, 5, none⟩ = some (.int .i64 1)) ∧ Below (lsW w).heap.size (lsW w) w' := by
  refine (merge_in (lsW_at w) (by decide) (by decide) (by decide)).mono ?_
  rintro e w' ⟨v, out, rfl, hm, ho, hb⟩
  obtain rfl : out = outL := hm.one mgdL
  refine ⟨?_, hb⟩
  rcases ho.2 with ⟨_, h0⟩ | ⟨g, cap, cur, rfl, h1, h2, h3⟩
  · cases h0
  · refine ⟨g, cap, rfl, block_ltT h2, ?_⟩
    have := ho.cells (g := g) rfl 5 (.int .i64 1) rfl
    exact this
end
set_option maxRecDepth 100000 in
set_option maxHeartbeats 8000000 in
theorem lives8_yes (w : World) :
    Calls Try.prog 10 #[] w fun e w' => e = .returned (.bool true) ∧ Below w.heap.size w w' := by
  go_enter Try.func10, Try.ntmps10
  go_wp2_with fail
  refine (tl_new w).mono ?_
  rintro e w1 ⟨⟨t, a, b, rfl, h⟩, hb⟩
  have HQ1 := Lib.hid h
  have HB1 := Lib.hid hb
  clear h hb
  go_wp2_with fail
  refine (tl_winA HQ1.out).mono ?_
  rintro e w2 ⟨rfl, hb⟩
  have HQ2 := Lib.hid ((HQ1.out.kept hb).kept (ba _ (.cells #[.int .i64 0, .int .i64 0] 28)))
  have HB2 := Lib.hid ((bt HB1.out hb).trans ((ba _ (.cells #[.int .i64 0, .int .i64 0] 28)).mono (bt HB1.out hb).size))
  clear hb HQ1 HB1
  go_wp2_with fail
  refine (tl_set1 HQ2.out).mono ?_
  rintro e w3 ⟨rfl, h, hb⟩
  have HQ3 := Lib.hid h
  have HB3 := Lib.hid (HB2.out.trans hb)
  clear h hb HQ2 HB2
  go_wp2_with fail
  refine (tl_set2 HQ3.out).mono ?_
  rintro e w4 ⟨rfl, h, hb⟩
  have HQ4 := Lib.hid h
  have HB4 := Lib.hid (HB3.out.trans hb)
  clear h hb HQ3 HB3
  go_wp2_with fail
  refine (tl_set3 HQ4.out).mono ?_
  rintro e w5 ⟨rfl, hb⟩
  have HQ5 := Lib.hid (HQ4.out.kept hb)
  have HB5 := Lib.hid (bt HB4.out hb)
  clear hb HQ4 HB4
  go_wp2_with fail
  refine (tl_winC HQ5.out).mono ?_
  rintro e w6 ⟨rfl, hb⟩
  have hb2 := bt hb (ba w6 (.cells #[.int .i64 4, .int .i64 0] 28))
  have hx6 := (MapKept.heap_alloc w6 (.cells #[.int .i64 4, .int .i64 0] 28)).1
  have HQ6 := Lib.hid (HQ5.out.kept hb2)
  have HB6 := Lib.hid (bt HB5.out hb2)
  have HX6 := Lib.hid hx6
  clear hb hb2 hx6 HQ5 HB5
  go_wp2_with fail
  generalize w6.alloc (.cells #[.int .i64 4, .int .i64 0] 28) = w7 at HQ6 HB6 HX6 ⊢
  generalize w6.heap.size = x7 at HX6 ⊢
  refine (tl_get HQ6.out).mono ?_
  rintro e w8 ⟨rfl, hb⟩
  have hb2 := bt hb (ba w8 (.cells #[.int .i64 5, .int .i64 0] 28))
  have hx8 := (MapKept.heap_alloc w8 (.cells #[.int .i64 5, .int .i64 0] 28)).1
  have HQ8 := Lib.hid (HQ6.out.kept hb2)
  have HB8 := Lib.hid (bt HB6.out hb2)
  have HX7 := Lib.hid ((hb2.block x7 (block_ltT HX6.out)).trans HX6.out)
  have HX8 := Lib.hid hx8
  clear hb hb2 hx8 HQ6 HB6 HX6
  go_wp2_with fail
  generalize w8.alloc (.cells #[.int .i64 5, .int .i64 0] 28) = w9 at HQ8 HB8 HX7 HX8 ⊢
  generalize w8.heap.size = x8 at HX8 ⊢
  refine (tl_clear2 HQ8.out HX7.out HX8.out).mono ?_
  rintro e w10 ⟨rfl, h, hb, hx, hy⟩
  have HQ10 := Lib.hid h
  have HB10 := Lib.hid (HB8.out.trans hb)
  have HX10 := Lib.hid hx
  have HY10 := Lib.hid hy
  clear h hb hx hy HQ8 HB8 HX7 HX8
  go_wp2_with fail
  refine (tl_winB HQ10.out).mono ?_
  rintro e w11 ⟨rfl, hb⟩
  have hb2 := bt hb (ba w11 (.cells #[.int .i64 5, .int .i64 0] 28))
  have HQ11 := Lib.hid (HQ10.out.kept hb2)
  have HB11 := Lib.hid (bt HB10.out hb2)
  have HX11 := Lib.hid ((hb2.block x7 (block_ltT HX10.out)).trans HX10.out)
  have HY11 := Lib.hid ((hb2.block x8 (block_ltT HY10.out)).trans HY10.out)
  clear hb hb2 HQ10 HB10 HX10 HY10
  go_upto_region 11 with fail
  generalize w11.alloc (.cells #[.int .i64 5, .int .i64 0] 28) = w12 at HQ11 HB11 HX11 HY11 ⊢
  go_wp2_with fail
  refine (tl_merge w12).mono ?_
  rintro e w13 ⟨⟨g, cap, rfl, hg, hc⟩, hb⟩
  have hb2 := bt (lsW_below w12) hb
  have HQ13 := Lib.hid (HQ11.out.kept hb2)
  have HB13 := Lib.hid (bt HB11.out hb2)
  have hx := (hb2.block x7 (block_ltT HX11.out)).trans HX11.out
  have hy := (hb2.block x8 (block_ltT HY11.out)).trans HY11.out
  have HX13 := Lib.hid hx
  have HY13 := Lib.hid hy
  have HG := Lib.hid (And.intro hg hc)
  clear hg hc hb hb2 hx hy HQ11 HB11 HX11 HY11
  go_wp2_with fail
  refine (tl_new_nil w13).mono ?_
  rintro e wx ⟨rfl, rfl⟩
  have hx : w13.cell? ⟨x7, 0, none⟩ = some (.int .i64 4) := by simp only [World.cell?, HX13.out]; rfl
  have hy : w13.cell? ⟨x8, 0, none⟩ = some (.int .i64 5) := by simp only [World.cell?, HY13.out]; rfl
  go_wp2_with fail
  refine (tl_len HQ13.out).mono ?_
  rintro e w14 ⟨rfl, hb⟩
  have HQ14 := Lib.hid (HQ13.out.kept hb)
  have HB14 := Lib.hid (bt HB13.out hb)
  have hc : w14.cell? ⟨g, 5, none⟩ = some (.int .i64 1) := (hb.cell (p := ⟨g, 5, none⟩) HG.out.1).trans HG.out.2
  clear hb HQ13 HB13 HG hx hy
  go_wp2_with fail
  refine (tl_leaves HQ14.out).mono ?_
  rintro e wx ⟨rfl, rfl⟩
  go_wp2_with fail
  refine (tl_steps w14).mono ?_
  rintro e wx ⟨rfl, rfl⟩
  go_wp2_with fail
  go_ret
  exact ⟨rfl, HB14.out⟩
end Go.Proofs.Ytjcinhlghlcknaa
