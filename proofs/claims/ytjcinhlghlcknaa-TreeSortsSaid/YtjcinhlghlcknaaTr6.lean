/-
  Package tree: play.
-/
import Derived.Test.YtjcinhlghlcknaaTr5
import Derived.IntWalk
namespace Go.Proofs.Ytjcinhlghlcknaa
open Go.RowKit

/-- The blocks that a tree's calls may turn. -/
def TS (O : Ord8) (a b : Nat) (k : Nat) : Prop := k = a ∨ k = b ∨ O.S k
theorem WnX.inT {L : List Lf} {m : Nat} {W : List Int} {k : Nat} (h : WnX L m W k) {j : Nat} (h1 : 1 ≤ j) (h2 : j < 2 * m) : InT L (W.getD j (-1)) := by
  rcases h.inn j h1 h2 with g | ⟨i, gi, gn, _⟩
  · exact .inl g
  · exact .inr ⟨i, gi, gn⟩
/-- What play's loop knows: place k is next; so many are left. -/
def PlR (O : Ord8) (B : Nat) (w0 w : World) (t a b : Nat) (L : List Lf) (M s : Nat) (c0 : Int) (k : Nat) : Prop :=
  ∃ (W : List Int) (c : Int) (r : Nat), TrAt B w t a b O.ov L W ∧ WnX L M W k ∧ O.J w c ∧ Ofs (TS O a b) w0 w ∧ k < 2 ^ r ∧ c + r ≤ c0 + s ∧ c0 ≤ c
section
variable {O : Ord8} {B : Nat} {w0 w : World} {t a b : Nat} {L : List Lf} {W : List Int}
theorem TrAt.apart (h : TrAt B w t a b O.ov L W) (hO : OrdOk O) {c : Int} (hJ : O.J w c) : ∀ k, TS O a b k → k ≠ t := fun k hk => by
  rcases hk with rfl | rfl | hk
  · exact Ne.symm h.ne.1
  · exact Ne.symm h.ne.2.1
  · exact (hO.apart hJ h k hk).1
theorem ord_win (hO : OrdOk O) {c : Int} (hJ : O.J w c) (h : TrAt B w t a b O.ov L W) (j : Nat) (v : Value) : O.J (w.setCell ⟨b, j, none⟩ v) c :=
  hO.keep _ _ _ hJ fun k hk => by
    have := (hO.apart hJ h k hk).2.2
    simp [World.setCell, Array.getElem?_modify, Ne.symm this]
theorem ord_put (hO : OrdOk O) {c : Int} (hJ : O.J w c) (h : TrAt B w t a b O.ov L W) (i j : Nat) (v u : Value) : O.J ((w.setCell ⟨a, i, none⟩ v).setCell ⟨a, j, none⟩ u) c :=
  hO.keep _ _ _ hJ fun k hk => by
    have := (hO.apart hJ h k hk).2.1
    simp [World.setCell, Array.getElem?_modify, Ne.symm this]
/-- What a round reads. -/
abbrev PlC (w : World) (t b N i j : Nat) (x y : Int) : Prop :=
  w.cell? ⟨t, 2, none⟩ = some (.slice (some ⟨b, 0, none⟩) N N) ∧ w.cell? ⟨b, i, none⟩ = some (.int .i64 x) ∧ w.cell? ⟨b, j, none⟩ = some (.int .i64 y)
theorem TrAt.plC {ov : Value} (h : TrAt B w t a b ov L W) {i j : Nat} (hi : i < W.length) (hj : j < W.length) : PlC w t b W.length i j (W.getD i (-1)) (W.getD j (-1)) := ⟨h.c2, h.wn hi, h.wn hj⟩
theorem PlC.of {ov : Value} (h : TrAt B w t a b ov L W) {i j k : Nat} (hi : i < W.length) (hj : j < W.length) (hk : k < W.length) (n1 : k ≠ i) (n2 : k ≠ j) :
    PlC w t b W.length i j (W.getD i (-1)) (W.getD j (-1)) ∧ w.cell? ⟨b, k, none⟩ = some (.int .i64 (W.getD k (-1))) ∧ w.frozen? ⟨b, k, none⟩ = false ∧ ∀ v, PlC (w.setCell ⟨b, k, none⟩ (.int .i64 v)) t b W.length i j (W.getD i (-1)) (W.getD j (-1)) :=
  ⟨h.plC hi hj, h.wn hk, h.fb k, fun v => by
    have := (h.win k v).plC (i := i) (j := j) (by rw [List.length_set]; exact hi) (by rw [List.length_set]; exact hj)
    rwa [List.length_set, getD_set_ne n1, getD_set_ne n2] at this⟩
/-- One round. -/
theorem PlR.step {M s : Nat} {c0 : Int} {k r : Nat} {c c' : Int} {w1 : World} (hO : OrdOk O) (hT : TrAt B w1 t a b O.ov L W) (hw : WnX L M W k) (hJ : O.J w1 c') (hs : Ofs (TS O a b) w0 w1) (h1 : 1 ≤ k) (hk : k < M) (hr : k < 2 ^ r) (hc : c + r ≤ c0 + s) (hc0 : c0 ≤ c) (hc1 : c ≤ c') (hc2 : c' ≤ c + 1) :
    PlR O B w0 (w1.setCell ⟨b, k, none⟩ (.int .i64 (betT L (W.getD (2 * k) (-1)) (W.getD (2 * k + 1) (-1))))) t a b L M s c0 (k / 2) := by
  have hr0 : r ≠ 0 := fun e => by subst e; simp at hr; omega
  obtain ⟨q, rfl⟩ := Nat.exists_eq_succ_of_ne_zero hr0
  refine ⟨_, c', q, hT.win k _, hw.step h1 hk, ord_win hO hJ hT k _, hs.set (.inr (.inl rfl)) _, ?_, ?_, by omega⟩
  · have : 2 ^ (q + 1) = 2 * 2 ^ q := by rw [Nat.pow_succ]; omega
    simp only [Nat.succ_eq_add_one] at hr
    omega
  · simp only [Nat.succ_eq_add_one] at hc; omega
set_option maxRecDepth 100000 in
set_option maxHeartbeats 4000000 in
/-- A leaf's own place is told, then all above it. -/
theorem play_any {M s : Nat} (hO : OrdOk O) (h : TrAt B w t a b O.ov L W) {i : Nat} {v : Int} (hi : i < L.length) (hn : L.length ≤ 64) (hm : M ≤ 64) (hs : M = 2 ^ s) (hlen : W.length = 2 * M) (hx : WnX L M (W.set (M + i) v) ((M + i) / 2)) {c : Int} (hJ : O.J w c) (hc : c ≤ 90000) (hs6 : s ≤ 6) :
    Calls Try.prog 26 #[.pointer (some ⟨t, 0, none⟩), .int .i64 i, .int .i64 v] w
      fun e w' => e = .returned (.tuple #[]) ∧ PlR O B w w' t a b L M s c 0 := by
  have hLM := hx.n
  have HP := Lib.hid (place_any h hlen hm i (by omega))
  have c2 := h.c2
  have cw := h.wn (j := M + i) (by omega)
  have fw := h.fb (M + i)
  have HR := Lib.hid (show PlR O B w (w.setCell ⟨b, M + i, none⟩ (.int .i64 v)) t a b L M s c ((M + i) / 2) from
    ⟨_, c, s, h.win _ _, hx, ord_win hO hJ h _ _, (Ofs.refl _ _).set (.inr (.inl rfl)) _, by
      rw [← hs]; omega, by omega, by omega⟩)
  have hMi : M + i < W.length := by omega
  have hMi2 : M + i ≤ 128 := by omega
  obtain ⟨N, hN⟩ : ∃ N, N = W.length := ⟨_, rfl⟩
  rw [← hN] at c2 hMi
  have HO := Lib.hid hO
  have hMi3 : M + i < 2 * M := by omega
  have HI := Lib.hid (And.intro hi (And.intro hn (And.intro hm (And.intro hLM (And.intro hc hs6)))))
  clear h hN hlen hx hJ hs hO hi hn hm hLM hc hs6
  obtain ⟨p, hp⟩ : ∃ p, p = M + i := ⟨_, rfl⟩
  rw [← hp] at HP cw fw HR hMi hMi2 hMi3
  obtain ⟨g, hg⟩ : ∃ g, g = p / 2 := ⟨_, rfl⟩
  have hq : (p : Int) / 2 = (g : Int) := by omega
  have hgM : g < M := by omega
  rw [← hg] at HR
  clear hp hg
  go_enter Try.func26, Try.ntmps26
  go_wp2_with fail
  refine HP.out.mono ?_
  rintro e w1 ⟨rfl, rfl⟩
  go_wp2_with fail
  go_loopw [6] (fun kk wr => ∃ k : Nat, kk = .int .i64 k ∧ k < M ∧ Hid (PlR O B w1 wr t a b L M s c k)) (fun kk _ => (intOf kk).toNat)
  case atStart => exact ⟨g, rfl, hgM, HR⟩
  case round =>
    obtain ⟨k, rfl, hkM, HR2⟩ := hrel
    clear HR c2 cw fw HP hq
    by_cases h0 : 0 < k
    · have h0i : (0 : Int) < (k : Int) := by omega
      have hM := HI.out.2.2.1
      obtain ⟨W2, c', r, hT, hw, hJ, hs, hr, hcr, hcc⟩ := HR2.out
      have hl := hw.len
      have hd := hT.kept (Below.drew (Below.refl _ wr))
      have hdJ := HO.out.below hJ (Below.drew (Below.refl _ wr))
      have hs6 := HI.out.2.2.2.2.2
      have hc9 := HI.out.2.2.2.2.1
      have HS := Lib.hid (better_any HO.out hd HI.out.2.1 hdJ (by omega) (hw.inT (j := 2 * k) (by omega) (by omega)) (hw.inT (j := 2 * k + 1) (by omega) (by omega)))
      have HX := Lib.hid (hd.plC (i := 2 * k) (j := 2 * k + 1) (by omega) (by omega))
      have HK := Lib.hid (fun w1 (ho : Ofs O.S wr.drew w1) => PlC.of (HO.out.off hdJ ho hd) (i := 2 * k) (j := 2 * k + 1) (k := k) (by omega) (by omega) (by omega) (by omega) (by omega))
      have HF := Lib.hid (fun (w1 : World) (c1 : Int) (ho : Ofs O.S wr.drew w1) (hj1 : O.J w1 c1) (hc1 : c' ≤ c1) (hc2 : c1 ≤ c' + 1) =>
        PlR.step (L := L) (M := M) (s := s) (c0 := c) (k := k) (r := r) (c := c') (c' := c1) HO.out (HO.out.off hdJ ho hd) hw hj1
          ((hs.trans (Ofs.of_below (Below.drew (Below.refl _ wr)))).trans (ho.mono fun _ hh => .inr (.inr hh))) (by omega) hkM hr hcr hcc hc1 hc2)
      obtain ⟨N2, hN2⟩ : ∃ N2, N2 = W2.length := ⟨_, rfl⟩
      rw [← hN2] at HX HK hl
      obtain ⟨k2, hk2⟩ : ∃ k2, k2 = 2 * k := ⟨_, rfl⟩
      obtain ⟨k3, hk3⟩ : ∃ k3, k3 = k2 + 1 := ⟨_, rfl⟩
      have e1 : 2 * (k : Int) = (k2 : Int) := by omega
      have e2 : (k2 : Int) + 1 = (k3 : Int) := by omega
      have v1 : IntKind.i64.wrap (2 * (k : Int)) = (k2 : Int) := by rw [e1]; exact IntWalk.i64_in _ (by omega)
      have v2 : IntKind.i64.wrap ((k2 : Int) + 1) = (k3 : Int) := by rw [e2]; exact IntWalk.i64_in _ (by omega)
      have v3 : IntKind.i64.wrap (k2 : Int) = (k2 : Int) := IntWalk.i64_in _ (by omega)
      have v4 : IntKind.i64.wrap (k3 : Int) = (k3 : Int) := IntWalk.i64_in _ (by omega)
      have b1 : (k2 : Int) < (N2 : Int) := by omega
      have b2 : (k3 : Int) < (N2 : Int) := by omega
      have b3 : (k : Int) < (N2 : Int) := by omega
      have l1 : k2 < N2 := by omega
      have l2 : k3 < N2 := by omega
      have l3 : k < N2 := by omega
      have l4 : k2 ≤ 128 := by omega
      have l5 : k3 ≤ 128 := by omega
      rw [← hk2, ← hk3] at HX HS HK HF
      generalize W2.getD k2 (-1) = x at HX HS HF HK
      generalize W2.getD k3 (-1) = y at HX HS HF HK
      clear hT hw hJ hs hr hcr hcc hd hdJ hc9 hs6 hl hN2 hk2 hk3 HI HO
      go_upto_region 5 with fail
      go_region_held3 (fun w' => PlC w' t b N2 k2 k3 x y)
        (first | exact HX.out | exact HY.out | exact HZ.out _)
        ((go_at_call 32; refine HS.out.mono ?_; rintro e w1' ⟨rfl, ho1, c1, hj1, hc1, hc2⟩; obtain ⟨hy1, hy2, hy3, hy4⟩ := HK.out w1' ho1; have HY := Lib.hid hy1; have HZ := Lib.hid hy4; have HG := Lib.hid (HF.out w1' c1 ho1 hj1 hc1 hc2); clear hy1 hy4 ho1 hj1 hc1 hc2))
      have hgg : (k : Int) / 2 = ((k / 2 : Nat) : Int) := by omega
      obtain ⟨g2, hg2⟩ : ∃ g2, g2 = k / 2 := ⟨_, rfl⟩
      rw [← hg2] at hgg HG
      have hgk : g2 < k := by omega
      clear hg2
      go_wp2_with fail
      go_roundw
      case rel => exact ⟨g2, rfl, by omega, HG⟩
      case measure => simp [intOf]; omega
    · have h0i : ¬ (0 : Int) < (k : Int) := by omega
      obtain rfl : k = 0 := by omega
      go_wp2_with fail
      go_end0
      exact ⟨rfl, HR2.out⟩
end
end Go.Proofs.Ytjcinhlghlcknaa
