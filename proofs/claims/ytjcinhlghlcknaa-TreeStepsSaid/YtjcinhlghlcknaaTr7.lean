/-
  Package tree: Set, Clear.
-/
import Derived.Test.YtjcinhlghlcknaaTr6
namespace Go.Proofs.Ytjcinhlghlcknaa
open Go.RowKit

/-- A tree, whole. -/
structure T8 (O : Ord8) (B : Nat) (w : World) (t a b : Nat) (L : List Lf) (M s : Nat) (c : Int) : Prop where
  at' : ∃ W, TrAt B w t a b O.ov L W ∧ WnX L M W 0
  j : O.J w c
  z : Zs L
  m : M = 2 ^ s
  s6 : s ≤ 6
section
variable {O : Ord8} {B : Nat} {w w' : World} {t a b : Nat} {L : List Lf} {M s : Nat} {c : Int}
theorem T8.m64 (h : T8 O B w t a b L M s c) : M ≤ 64 := by
  have h1 := h.m
  have h2 := h.s6
  have : 2 ^ s ≤ 2 ^ 6 := Nat.pow_le_pow_right (by omega) h2
  omega
theorem T8.n (h : T8 O B w t a b L M s c) : 1 ≤ L.length ∧ L.length ≤ 64 := by
  obtain ⟨W, _, hw⟩ := h.at'
  have := hw.n; have := h.m64; omega
theorem T8.lt (h : T8 O B w t a b L M s c) : B ≤ w.heap.size := by
  obtain ⟨W, hT, _⟩ := h.at'
  exact hT.lt
theorem T8.kept (hO : OrdOk O) (h : T8 O B w t a b L M s c) (hb : Below w.heap.size w w') : T8 O B w' t a b L M s c := by
  obtain ⟨W, hT, hw⟩ := h.at'
  exact ⟨⟨W, hT.kept hb, hw⟩, hO.below h.j hb, h.z, h.m, h.s6⟩
theorem T8.lo (h : T8 O B w t a b L M s c) : B ≤ t ∧ B ≤ a ∧ B ≤ b := by
  obtain ⟨W, hT, _⟩ := h.at'
  exact hT.lo
/-- What a call leaves that turned the tree. -/
def SetE (O : Ord8) (B : Nat) (w : World) (t a b : Nat) (L : List Lf) (M s : Nat) (c r : Int) (e : Ending) (w' : World) : Prop :=
  e = .returned (.int .i64 r) ∧ Ofs (TS O a b) w w' ∧ ∃ c', T8 O B w' t a b L M s c' ∧ c ≤ c' ∧ c' ≤ c + s
theorem PlR.t8 {w0 : World} {L : List Lf} (h : PlR O B w0 w t a b L M s c 0) (hz : Zs L) (hm : M = 2 ^ s) (hs : s ≤ 6) : Ofs (TS O a b) w0 w ∧ ∃ c', T8 O B w t a b L M s c' ∧ c ≤ c' ∧ c' ≤ c + s := by
  obtain ⟨W, c', r, hT, hw, hJ, ho, _, h1, h2⟩ := h
  exact ⟨ho, c', ⟨⟨W, hT, hw⟩, hJ, hz, hm, hs⟩, h2, by omega⟩
theorem put8 {W1 : World} {W : List Int} (hO : OrdOk O) (hT : TrAt B W1 t a b O.ov L W) (hJ : O.J W1 c) (i : Nat) (l : Lf) :
    TrAt B (((W1.setCell ⟨a, i * 2, none⟩ (.int .i64 l.k)).setCell ⟨a, i * 2 + 1, none⟩ (.int .i64 l.t)).drew) t a b O.ov (L.set i l) W ∧ O.J (((W1.setCell ⟨a, i * 2, none⟩ (.int .i64 l.k)).setCell ⟨a, i * 2 + 1, none⟩ (.int .i64 l.t)).drew) c ∧
      Ofs (TS O a b) W1 (((W1.setCell ⟨a, i * 2, none⟩ (.int .i64 l.k)).setCell ⟨a, i * 2 + 1, none⟩ (.int .i64 l.t)).drew) := by
  have h1 := ((Ofs.refl (TS O a b) W1).set (o := i * 2) (.inl rfl) (.int .i64 l.k)).set (b := a) (o := i * 2 + 1) (.inl rfl) (.int .i64 l.t)
  exact ⟨(hT.put i l).same rfl rfl rfl, hO.keep _ _ _ (ord_put hO hJ hT _ _ _ _) (fun k _ => rfl), h1.trans (Ofs.of_below (Below.drew (Below.refl _ _)))⟩
set_option maxRecDepth 100000 in
set_option maxHeartbeats 4000000 in
theorem set_in (hO : OrdOk O) (h : T8 O B w t a b L M s c) (hc : c ≤ 80000) {i : Nat} (hi : i < L.length) (k1 t1 : Int) :
    Calls Try.prog 11 #[.pointer (some ⟨t, 0, none⟩), .int .i64 i, .agg #[.int .i64 k1, .int .i64 t1]] w (SetE O B w t a b (L.set i ⟨k1, t1, true⟩) M s c 0) := by
  have hn := h.n
  have hm := h.m64
  have hb1 := ba w (.cells #[.int .i64 k1, .int .i64 t1] 28)
  have HB := Lib.hid hb1
  have hbx := (MapKept.heap_alloc w (.cells #[.int .i64 k1, .int .i64 t1] 28)).1
  have HX := Lib.hid hbx
  obtain ⟨W, hT, hw⟩ := h.at'
  have HT := Lib.hid (hT.kept hb1)
  have HJ := Lib.hid (hO.below h.j hb1)
  have HC := Lib.hid (check_any (hT.kept hb1) hn.1 hn.2 i)
  have HZ := Lib.hid (show chkT L.length i = 0 by unfold chkT; rw [if_neg (by omega)])
  rw [HZ.out] at HC
  have HW := Lib.hid hw
  have HV := Lib.hid h
  obtain ⟨U, hU⟩ : ∃ U, U = w.heap.size := ⟨_, rfl⟩
  rw [← hU] at HX
  have HU := Lib.hid hU
  have hUa : a < U := by rw [hU]; exact block_ltT hT.things
  obtain ⟨N, hN⟩ : ∃ N, N = L.length := ⟨_, rfl⟩
  have HI := Lib.hid (And.intro hi (And.intro hn hm))
  have hi2 : i < N := by omega
  have hi3 : (i : Int) < (N : Int) := by omega
  have hN64 : N ≤ 64 := by omega
  have HN := Lib.hid hN
  have HO := Lib.hid hO
  clear hb1 hbx hw hT h hU hN hi hn hm hO
  go_enter Try.func11, Try.ntmps11
  go_upto_region 1 with fail
  rw [← HU.out]
  generalize w.alloc (.cells #[.int .i64 k1, .int .i64 t1] 28) = W1 at HB HX HT HJ HC ⊢
  go_wp2_with fail
  refine HC.out.mono ?_
  rintro e w1 ⟨rfl, rfl⟩
  go_upto_region 4 with fail
  have x0 := HT.out.c1
  rw [← HN.out] at x0
  have x1 : W1.cell? ⟨U, 0, none⟩ = some (.int .i64 k1) := by simp only [World.cell?, HX.out]; rfl
  have x2 : W1.cell? ⟨U, 1, none⟩ = some (.int .i64 t1) := by simp only [World.cell?, HX.out]; rfl
  obtain ⟨y1, y2⟩ := HT.out.th HI.out.1
  have f1 := HT.out.fa (i * 2)
  have f2 := HT.out.fa (i * 2 + 1)
  go_region
  go_wp2_with fail
  have HP := Lib.hid (put8 HO.out HT.out HJ.out i ⟨k1, t1, true⟩)
  have hlen := HW.out.len
  have hx := HW.out.start HI.out.1 ⟨k1, t1, true⟩ (v := (i : Int)) (by simp)
  clear x0 x1 x2 y1 y2 f1 f2
  refine (play_any HO.out HP.out.1 (i := i) (v := (i : Int)) (by rw [List.length_set]; exact HI.out.1) (by rw [List.length_set]; exact HI.out.2.1.2) HI.out.2.2 HV.out.m hlen hx HP.out.2.1 (by omega) HV.out.s6).mono ?_
  rintro e w2 ⟨rfl, hpl⟩
  have HL := Lib.hid (hpl.t8 (HV.out.z.set (by simp)) HV.out.m HV.out.s6)
  clear hpl hlen hx
  go_wp2_with fail
  go_ret
  exact ⟨rfl, ((Ofs.of_below HB.out).trans HP.out.2.2).trans HL.out.1, HL.out.2⟩
set_option maxRecDepth 100000 in
set_option maxHeartbeats 1000000 in
theorem set_out (h : T8 O B w t a b L M s c) {i : Int} (hi : i < 0 ∨ (L.length : Int) ≤ i) (k1 t1 : Int) :
    Calls Try.prog 11 #[.pointer (some ⟨t, 0, none⟩), .int .i64 i, .agg #[.int .i64 k1, .int .i64 t1]] w fun e w' => e = .returned (.int .i64 4) ∧ Below w.heap.size w w' := by
  have hn := h.n
  obtain ⟨W, hT, hw⟩ := h.at'
  have hb1 := ba w (.cells #[.int .i64 k1, .int .i64 t1] 28)
  have HB := Lib.hid hb1
  have HC := Lib.hid (check_any (hT.kept hb1) hn.1 hn.2 i)
  have HZ := Lib.hid (show chkT L.length i = 4 by unfold chkT; rw [if_pos hi])
  rw [HZ.out] at HC
  clear hb1 hT hw h hn hi
  go_enter Try.func11, Try.ntmps11
  go_wp2_with fail
  refine HC.out.mono ?_
  rintro e w1 ⟨rfl, rfl⟩
  go_wp2_with fail
  go_ret
  exact ⟨rfl, HB.out⟩
theorem set_nil (i k1 t1 : Int) (w : World) :
    Calls Try.prog 11 #[.pointer none, .int .i64 i, .agg #[.int .i64 k1, .int .i64 t1]] w fun e w' => e = .returned (.int .i64 6) ∧ Below w.heap.size w w' := by
  have HB := Lib.hid (ba w (.cells #[.int .i64 k1, .int .i64 t1] 28))
  go_enter Try.func11, Try.ntmps11
  go_wp2_with fail
  refine (check_nil i _).mono ?_
  rintro e w1 ⟨rfl, rfl⟩
  go_wp2_with fail
  go_ret
  exact ⟨rfl, HB.out⟩
set_option maxRecDepth 100000 in
set_option maxHeartbeats 4000000 in
theorem clear_in (hO : OrdOk O) (h : T8 O B w t a b L M s c) (hc : c ≤ 80000) {i : Nat} (hi : i < L.length) :
    Calls Try.prog 12 #[.pointer (some ⟨t, 0, none⟩), .int .i64 i] w (SetE O B w t a b (L.set i noLf) M s c 0) := by
  have hn := h.n
  have hm := h.m64
  obtain ⟨W, hT, hw⟩ := h.at'
  have HC := Lib.hid (check_any hT hn.1 hn.2 i)
  have HZ := Lib.hid (show chkT L.length i = 0 by unfold chkT; rw [if_neg (by omega)])
  rw [HZ.out] at HC
  have HH := Lib.hid (holds_any hT hw hm hi)
  have HV := Lib.hid h
  have HW := Lib.hid hw
  have HT0 := Lib.hid hT
  cases hb : (L.getD i noLf).b with
  | false =>
    rw [hb] at HH
    have HE := Lib.hid (show L.set i noLf = L from by
      have hz := h.z i hb
      rw [List.getD_eq_getElem?_getD, List.getElem?_eq_getElem hi] at hz
      rw [← hz]; simp)
    have HO := Lib.hid hO
    clear hw hT h hb hi hn hm HW HT0 hO
    go_enter Try.func12, Try.ntmps12
    go_wp2_with fail
    refine HC.out.mono ?_
    rintro e w1 ⟨rfl, rfl⟩
    go_wp2_with fail
    refine HH.out.mono ?_
    rintro e w1 ⟨rfl, hb1⟩
    have HB := Lib.hid hb1
    clear hb1
    go_wp2_with fail
    go_ret
    exact ⟨rfl, Ofs.of_below HB.out, c, by rw [HE.out]; exact HV.out.kept HO.out HB.out, by omega, by omega⟩
  | true =>
    rw [hb] at HH
    obtain ⟨N, hN⟩ : ∃ N, N = L.length := ⟨_, rfl⟩
    have HI := Lib.hid (And.intro hi (And.intro hn hm))
    have hi2 : i < N := by omega
    have hi3 : (i : Int) < (N : Int) := by omega
    have hN64 : N ≤ 64 := by omega
    have HN := Lib.hid hN
    have HO := Lib.hid hO
    clear hw hT h hb hi hn hm hO hN
    go_enter Try.func12, Try.ntmps12
    go_wp2_with fail
    refine HC.out.mono ?_
    rintro e w1 ⟨rfl, rfl⟩
    go_wp2_with fail
    refine HH.out.mono ?_
    rintro e w1' ⟨rfl, hb1⟩
    have HB := Lib.hid hb1
    clear hb1
    go_upto_region 7 with fail
    have hb2 := bt HB.out (ba w1' (.cells #[.int .i64 0, .int .i64 0] 28))
    have HB2 := Lib.hid hb2
    have HT := Lib.hid (HT0.out.kept hb2)
    have HJ := Lib.hid (HO.out.below HV.out.j hb2)
    have HX := Lib.hid ((MapKept.heap_alloc w1' (.cells #[.int .i64 0, .int .i64 0] 28)).1)
    have hUa : a < w1'.heap.size := Nat.lt_of_lt_of_le (block_ltT HT0.out.things) HB.out.size
    clear hb2
    generalize w1'.alloc (.cells #[.int .i64 0, .int .i64 0] 28) = W1 at HB2 HT HJ HX ⊢
    generalize w1'.heap.size = U at HX hUa ⊢
    have x0 := HT.out.c1
    rw [← HN.out] at x0
    have x1 : W1.cell? ⟨U, 0, none⟩ = some (.int .i64 0) := by simp only [World.cell?, HX.out]; rfl
    have x2 : W1.cell? ⟨U, 1, none⟩ = some (.int .i64 0) := by simp only [World.cell?, HX.out]; rfl
    obtain ⟨y1, y2⟩ := HT.out.th HI.out.1
    have f1 := HT.out.fa (i * 2)
    have f2 := HT.out.fa (i * 2 + 1)
    go_region
    go_wp2_with fail
    have HP := Lib.hid (put8 HO.out HT.out HJ.out i noLf)
    have hlen := HW.out.len
    have hx := HW.out.start HI.out.1 noLf (v := -1) (by simp [noLf])
    clear x0 x1 x2 y1 y2 f1 f2
    refine (play_any HO.out HP.out.1 (i := i) (v := -1) (by rw [List.length_set]; exact HI.out.1) (by rw [List.length_set]; exact HI.out.2.1.2) HI.out.2.2 HV.out.m hlen hx HP.out.2.1 (by omega) HV.out.s6).mono ?_
    rintro e w2 ⟨rfl, hpl⟩
    have HL := Lib.hid (hpl.t8 (HV.out.z.set (fun _ => rfl)) HV.out.m HV.out.s6)
    clear hpl hlen hx
    go_wp2_with fail
    go_ret
    exact ⟨rfl, ((Ofs.of_below HB2.out).trans HP.out.2.2).trans HL.out.1, HL.out.2⟩
set_option maxRecDepth 100000 in
set_option maxHeartbeats 1000000 in
theorem clear_out (h : T8 O B w t a b L M s c) {i : Int} (hi : i < 0 ∨ (L.length : Int) ≤ i) :
    Calls Try.prog 12 #[.pointer (some ⟨t, 0, none⟩), .int .i64 i] w fun e w' => e = .returned (.int .i64 4) ∧ w = w' := by
  have hn := h.n
  obtain ⟨W, hT, hw⟩ := h.at'
  have HC := Lib.hid (check_any hT hn.1 hn.2 i)
  have HZ := Lib.hid (show chkT L.length i = 4 by unfold chkT; rw [if_pos hi])
  rw [HZ.out] at HC
  clear hT hw h hn hi
  go_enter Try.func12, Try.ntmps12
  go_wp2_with fail
  refine HC.out.mono ?_
  rintro e w1 ⟨rfl, rfl⟩
  go_wp2_with fail
  go_ret
  exact ⟨rfl, rfl⟩
theorem clear_nil (i : Int) (w : World) :
    Calls Try.prog 12 #[.pointer none, .int .i64 i] w fun e w' => e = .returned (.int .i64 6) ∧ w = w' := by
  go_enter Try.func12, Try.ntmps12
  go_wp2_with fail
  refine (check_nil i w).mono ?_
  rintro e w1 ⟨rfl, rfl⟩
  go_wp2_with fail
  go_ret
  exact ⟨rfl, rfl⟩
end
end Go.Proofs.Ytjcinhlghlcknaa
