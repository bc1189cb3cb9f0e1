/-
  Package tree: lists of pairs in memory; hand.
-/
import Derived.Test.YtjcinhlghlcknaaTr9
namespace Go.Proofs.Ytjcinhlghlcknaa
open Go.RowKit

/-- A pair: key, tag. -/
structure Pr where
  k : Int
  t : Int
deriving DecidableEq
instance : Inhabited Pr := ⟨⟨0, 0⟩⟩
/-- A leaf that holds the first of a list, if there is one. -/
def hdL : List Pr → Lf
  | [] => noLf
  | p :: _ => ⟨p.k, p.t, true⟩
/-- A list of pairs in memory, below block U. -/
def PAt (U : Nat) (w : World) (A : Option Addr) (r : List Pr) : Prop :=
  r = [] ∨ ∃ b off : Nat, A = some ⟨b, off, none⟩ ∧ b < U ∧ U ≤ w.heap.size ∧ ∀ (i : Nat) (p : Pr), r[i]? = some p →
    w.cell? ⟨b, off + i * 2, none⟩ = some (.int .i64 p.k) ∧ w.cell? ⟨b, off + i * 2 + 1, none⟩ = some (.int .i64 p.t)
theorem PAt.kept {U : Nat} {w w' : World} {A : Option Addr} {r : List Pr} (h : PAt U w A r) (hb : Below U w w') : PAt U w' A r := by
  rcases h with h | ⟨b, off, hA, hlt, hu, hc⟩
  · exact .inl h
  · refine .inr ⟨b, off, hA, hlt, Nat.le_trans hu hb.size, fun i p hp => ?_⟩
    obtain ⟨c0, c1⟩ := hc i p hp
    exact ⟨(hb.cell (p := ⟨b, _, none⟩) hlt).trans c0, (hb.cell (p := ⟨b, _, none⟩) hlt).trans c1⟩
theorem PAt.mono {U V : Nat} {w : World} {A : Option Addr} {r : List Pr} (h : PAt U w A r) (hUV : U ≤ V) (hV : V ≤ w.heap.size) : PAt V w A r := by
  rcases h with h | ⟨b, off, hA, hlt, hu, hc⟩
  · exact .inl h
  · exact .inr ⟨b, off, hA, by omega, hV, hc⟩
theorem PAt.tail {U : Nat} {w : World} {b off : Nat} {p : Pr} {r : List Pr} (h : PAt U w (some ⟨b, off, none⟩) (p :: r)) : PAt U w (some ⟨b, off + 2, none⟩) r := by
  rcases h with h | ⟨b', off', hA, hlt, hu, hc⟩
  · cases h
  · simp only [Option.some.injEq, Addr.mk.injEq] at hA
    obtain ⟨rfl, rfl, _⟩ := hA
    refine .inr ⟨b, off + 2, rfl, hlt, hu, fun i q hq => ?_⟩
    obtain ⟨c0, c1⟩ := hc (i + 1) q (by simpa using hq)
    rw [show off + 2 + i * 2 = off + (i + 1) * 2 by omega]
    exact ⟨c0, c1⟩
/-- A value that reads as a list of pairs. -/
def PV (U : Nat) (w : World) (v : Value) (r : List Pr) : Prop := ∃ A c, v = .slice A r.length c ∧ r.length ≤ c ∧ c ≤ 9223372036854775807 ∧ PAt U w A r
theorem PV.kept {U : Nat} {w w' : World} {v : Value} {r : List Pr} (h : PV U w v r) (hb : Below U w w') : PV U w' v r := by
  obtain ⟨A, c, h1, h2, h3, h4⟩ := h
  exact ⟨A, c, h1, h2, h3, h4.kept hb⟩
/-- What hand leaves. -/
def HandE (B : Nat) (w : World) (t a b : Nat) (L : List Lf) (M s : Nat) (i U : Nat) (r : List Pr) (e : Ending) (w' : World) : Prop :=
  ∃ v, e = .returned v ∧ PV U w' v r.tail ∧ T8 plainO B w' t a b (L.set i (hdL r)) M s 0 ∧ Ofs (TS plainO a b) w w'
section
variable {B U : Nat} {w w' : World} {t a b : Nat} {L : List Lf} {M s : Nat}
theorem T8.zero {c : Int} (h : T8 plainO B w t a b L M s c) : T8 plainO B w t a b L M s 0 := ⟨h.at', Int.le_refl _, h.z, h.m, h.s6⟩
theorem Ofs.belowT (h : Ofs (TS plainO a b) w w') (ha : U ≤ a) (hb : U ≤ b) (hU : U ≤ w.heap.size) : Below U w w' :=
  h.below (fun k hk => by
    rcases hk with rfl | rfl | hk
    · exact ha
    · exact hb
    · exact hk.elim) hU
set_option maxRecDepth 100000 in
set_option maxHeartbeats 4000000 in
theorem hand_any (h : T8 plainO B w t a b L M s 0) (hU : U ≤ B) {i : Nat} (hi : i < L.length) {v : Value} {r : List Pr} (hv : PV U w v r) :
    Calls Try.prog 30 #[.pointer (some ⟨t, 0, none⟩), .int .i64 i, v] w (HandE B w t a b L M s i U r) := by
  have hlo := h.lo
  have hBl := h.lt
  obtain ⟨A, c, rfl, hrc, hcm, hA⟩ := hv
  cases r with
  | nil =>
    have HC := Lib.hid (clear_in plainO_ok h (by omega) hi)
    simp only [List.length_nil]
    go_enter Try.func30, Try.ntmps30
    go_wp2_with fail
    refine HC.out.mono ?_
    rintro e w1 ⟨rfl, ho, c', ht, _, _⟩
    have HO := Lib.hid ho
    have HT := Lib.hid ht.zero
    clear ho ht
    go_wp2_with fail
    go_ret
    exact ⟨_, rfl, ⟨none, 0, rfl, Nat.zero_le _, by omega, .inl rfl⟩, HT.out, HO.out⟩
  | cons p r =>
    obtain ⟨b0, off, rfl, hlt, hu, hc⟩ : ∃ b off : Nat, A = some ⟨b, off, none⟩ ∧ b < U ∧ U ≤ w.heap.size ∧ ∀ (i : Nat) (q : Pr), (p :: r)[i]? = some q → w.cell? ⟨b, off + i * 2, none⟩ = some (.int .i64 q.k) ∧ w.cell? ⟨b, off + i * 2 + 1, none⟩ = some (.int .i64 q.t) := by
      rcases hA with hA | hA
      · cases hA
      · exact hA
    obtain ⟨c0, c1⟩ := hc 0 p rfl
    simp only [Nat.zero_mul, Nat.add_zero] at c0 c1
    have HS := Lib.hid (set_in plainO_ok h (by omega) hi p.k p.t)
    have HA := Lib.hid hA
    have HL := Lib.hid (And.intro hlo (And.intro hBl hU))
    obtain ⟨N, hN⟩ : ∃ N, N = (p :: r).length := ⟨_, rfl⟩
    rw [← hN] at hrc ⊢
    have hN1 : N = r.length + 1 := by rw [hN]; rfl
    have hN2 : 1 ≤ N := by omega
    have hz : ((N : Int) == 0) = false := by simp; omega
    have HN := Lib.hid hN1
    have hN3 : (N : Int) ≤ 9223372036854775807 := by omega
    clear h hA hc hN hN1 hlo hBl
    by_cases hc1 : c = 1
    · subst hc1
      obtain rfl : N = 1 := by omega
      obtain rfl : r = [] := List.eq_nil_of_length_eq_zero (by have := HN.out; omega)
      go_enter Try.func30, Try.ntmps30
      go_wp2_with fail
      refine HS.out.mono ?_
      rintro e w1 ⟨rfl, ho, c', ht, _, _⟩
      have HO := Lib.hid ho
      have HT := Lib.hid ht.zero
      clear ho ht
      go_wp2_with fail
      go_ret
      exact ⟨_, rfl, ⟨_, 0, rfl, Nat.zero_le _, by omega, .inl rfl⟩, HT.out, HO.out⟩
    · go_enter Try.func30, Try.ntmps30
      go_wp2_with fail
      refine HS.out.mono ?_
      rintro e w1 ⟨rfl, ho, c', ht, _, _⟩
      have HO := Lib.hid ho
      have HT := Lib.hid ht.zero
      have HP := Lib.hid (HA.out.tail.kept (ho.belowT (U := U) (by have := HL.out; omega) (by have := HL.out; omega) hu))
      clear ho ht
      go_wp2_with fail
      go_ret
      refine ⟨_, rfl, ⟨some ⟨b0, off + 2, none⟩, c - 1, ?_, ?_, by omega, HP.out⟩, HT.out, HO.out⟩
      · simp [HN.out]
      · have := HN.out; show r.length ≤ _; omega
end
end Go.Proofs.Ytjcinhlghlcknaa
