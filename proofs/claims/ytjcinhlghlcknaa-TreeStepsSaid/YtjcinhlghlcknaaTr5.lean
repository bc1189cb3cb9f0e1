/-
  Package tree: better.
-/
import Derived.Test.YtjcinhlghlcknaaTr4
namespace Go.Proofs.Ytjcinhlghlcknaa
open Go.RowKit

/-- Is a number a leaf's, or nobody's? -/
def InT (L : List Lf) (x : Int) : Prop := x = -1 ∨ ∃ i : Nat, x = i ∧ i < L.length
/-- What better reads. -/
abbrev BtC (w : World) (t a : Nat) (N i j : Nat) (k1 t1 k2 t2 : Int) : Prop :=
  w.cell? ⟨t, 1, none⟩ = some (.slice (some ⟨a, 0, none⟩) N N) ∧ w.cell? ⟨a, i * 2, none⟩ = some (.int .i64 k1) ∧ w.cell? ⟨a, i * 2 + 1, none⟩ = some (.int .i64 t1) ∧ w.cell? ⟨a, j * 2, none⟩ = some (.int .i64 k2) ∧ w.cell? ⟨a, j * 2 + 1, none⟩ = some (.int .i64 t2)
theorem TrAt.btC {B : Nat} {w : World} {t a b : Nat} {ov : Value} {L : List Lf} {W : List Int} (h : TrAt B w t a b ov L W) {i j : Nat} (hi : i < L.length) (hj : j < L.length) :
    BtC w t a L.length i j (L.getD i noLf).k (L.getD i noLf).t (L.getD j noLf).k (L.getD j noLf).t := ⟨h.c1, (h.th hi).1, (h.th hi).2, (h.th hj).1, (h.th hj).2⟩
/-- What better leaves. -/
def BetE (O : Ord8) (L : List Lf) (x y c : Int) (w : World) (e : Ending) (w' : World) : Prop :=
  e = .returned (.int .i64 (betT L x y)) ∧ Ofs O.S w w' ∧ ∃ c', O.J w' c' ∧ c ≤ c' ∧ c' ≤ c + 1
section
variable {O : Ord8} {B : Nat} {w : World} {t a b : Nat} {L : List Lf} {W : List Int}
set_option maxRecDepth 100000 in
set_option maxHeartbeats 2000000 in
theorem better_any (hO : OrdOk O) (h : TrAt B w t a b O.ov L W) (hn0 : L.length ≤ 64) {c : Int} (hJ : O.J w c) (hc : c ≤ 100000) {x y : Int} (hx : InT L x) (hy : InT L y) :
    Calls Try.prog 32 #[.pointer (some ⟨t, 0, none⟩), .int .i64 x, .int .i64 y] w (BetE O L x y c w) := by
  have hn := hn0
  have HE := Lib.hid (show ∀ w', Below w.heap.size w w' → Ofs O.S w w' ∧ ∃ c', O.J w' c' ∧ c ≤ c' ∧ c' ≤ c + 1 from fun w' hb => ⟨Ofs.of_below hb, c, hO.below hJ hb, by omega, by omega⟩)
  rcases hx with rfl | ⟨i, rfl, hi⟩
  · have HB := Lib.hid (show betT L (-1) y = y by simp [betT])
    clear h hJ hy
    go_enter Try.func32, Try.ntmps32
    go_wp2_with fail
    go_ret
    exact ⟨ret_int HB.out.symm, HE.out _ (Below.refl _ _)⟩
  · rcases hy with rfl | ⟨j, rfl, hj⟩
    · have HB := Lib.hid (show betT L (i : Int) (-1) = i by unfold betT; rw [if_neg (by omega), if_pos rfl])
      have hi1 : ((i : Int) == -1) = false := by simp
      clear h hJ
      go_enter Try.func32, Try.ntmps32
      go_wp2_with fail
      go_quiet (fail)
      go_wp2_with fail
      go_ret
      exact ⟨ret_int HB.out.symm, HE.out _ (drNT _ _)⟩
    · have HB := Lib.hid (show betT L (i : Int) (j : Int) = if (L.getD i noLf).k ≤ (L.getD j noLf).k then (i : Int) else j by unfold betT keyT; rw [if_neg (by omega), if_neg (by omega), Int.toNat_natCast, Int.toNat_natCast])
      have hi1 : ((i : Int) == -1) = false := by simp
      have hj1 : ((j : Int) == -1) = false := by simp
      have hd := h.kept (Below.drew (Below.refl _ w))
      have HX := Lib.hid (hd.btC hi hj)
      have HD := Lib.hid (show Below w.heap.size w w.drew from Below.drew (Below.refl _ _))
      have HS := Lib.hid (hO.stand B w.drew t a b L W c (L.getD i noLf).k (L.getD i noLf).t (L.getD j noLf).k (L.getD j noLf).t hd (hO.below hJ HD.out) hc)
      have HK := Lib.hid (show ∀ w1, Ofs O.S w.drew w1 → BtC w1 t a L.length i j (L.getD i noLf).k (L.getD i noLf).t (L.getD j noLf).k (L.getD j noLf).t from fun w1 ho => (hO.off (hO.below hJ HD.out) ho hd).btC hi hj)
      obtain ⟨N, hN⟩ : ∃ N, N = L.length := ⟨_, rfl⟩
      rw [← hN] at HX HK hi hj hn
      generalize (L.getD i noLf).k = k1 at HX HS HB HK
      generalize (L.getD i noLf).t = t1 at HX HS HK
      generalize (L.getD j noLf).k = k2 at HX HS HB HK
      generalize (L.getD j noLf).t = t2 at HX HS HK
      clear h hJ hd hN
      by_cases hk : k1 ≤ k2
      · rw [if_pos hk] at HB
        have hq : cmpI k1 k2 ≤ 0 := by unfold cmpI; split; omega; split <;> omega
        generalize cmpI k1 k2 = q at hq HS
        clear hk
        go_enter Try.func32, Try.ntmps32
        go_upto_region 3 with fail
        go_region_held3 (fun w' => BtC w' t a N i j k1 t1 k2 t2)
          (first | exact HX.out | exact HY.out)
          ((go_at_call 33; refine HS.out.mono ?_; rintro e w1 ⟨rfl, ho1, hj1⟩; have HY := Lib.hid (HK.out w1 ho1)))
        have HF := Lib.hid (And.intro ho1 hj1)
        clear ho1 hj1
        go_wp2_with fail
        go_ret
        exact ⟨ret_int HB.out.symm, (Ofs.of_below HD.out).trans HF.out.1, HF.out.2⟩
      · rw [if_neg hk] at HB
        have hq : 0 < cmpI k1 k2 := by unfold cmpI; rw [if_neg (by omega), if_pos (by omega)]; omega
        generalize cmpI k1 k2 = q at hq HS
        clear hk
        go_enter Try.func32, Try.ntmps32
        go_upto_region 3 with fail
        go_region_held3 (fun w' => BtC w' t a N i j k1 t1 k2 t2)
          (first | exact HX.out | exact HY.out)
          ((go_at_call 33; refine HS.out.mono ?_; rintro e w1 ⟨rfl, ho1, hj1⟩; have HY := Lib.hid (HK.out w1 ho1)))
        have HF := Lib.hid (And.intro ho1 hj1)
        clear ho1 hj1
        go_wp2_with fail
        go_ret
        exact ⟨ret_int HB.out.symm, (Ofs.of_below HD.out).trans HF.out.1, HF.out.2⟩
end
end Go.Proofs.Ytjcinhlghlcknaa
