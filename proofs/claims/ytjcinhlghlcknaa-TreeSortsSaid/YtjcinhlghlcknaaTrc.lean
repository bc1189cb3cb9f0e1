/-
  Package tree: lists of lists of pairs in memory; slices.Clone of them.
-/
import Derived.Test.YtjcinhlghlcknaaTrb
import Derived.Laws.AppendOwnNone
import Derived.WalkSpells
namespace Go.Proofs.Ytjcinhlghlcknaa
open Go.RowKit

/-- Values that read as lists of pairs. -/
def PVs (U : Nat) (w : World) (vs : List Value) (rs : List (List Pr)) : Prop := vs.length = rs.length ∧ ∀ (j : Nat) (v : Value) (r : List Pr), vs[j]? = some v → rs[j]? = some r → PV U w v r
theorem PVs.kept {U : Nat} {w w' : World} {vs : List Value} {rs : List (List Pr)} (h : PVs U w vs rs) (hb : Below U w w') : PVs U w' vs rs :=
  ⟨h.1, fun j v r hv hr => (h.2 j v r hv hr).kept hb⟩
theorem PVs.set {U : Nat} {w : World} {vs : List Value} {rs : List (List Pr)} (h : PVs U w vs rs) (i : Nat) {v : Value} {r : List Pr} (hv : PV U w v r) : PVs U w (vs.set i v) (rs.set i r) := by
  refine ⟨by rw [List.length_set, List.length_set]; exact h.1, fun j u q hu hq => ?_⟩
  rw [List.getElem?_set] at hu hq
  have := h.1
  by_cases e : i = j
  · subst e
    by_cases hi : i < vs.length
    · rw [if_pos rfl, if_pos hi] at hu
      rw [if_pos rfl, if_pos (by omega)] at hq
      cases hu; cases hq; exact hv
    · rw [if_pos rfl, if_neg hi] at hu; cases hu
  · rw [if_neg e] at hu hq
    exact h.2 j u q hu hq
/-- A list of such values in memory, below block U. -/
def LsAt (U : Nat) (w : World) (A : Option Addr) (ls : List (List Pr)) : Prop :=
  ls = [] ∨ ∃ (b off : Nat) (vs : List Value), A = some ⟨b, off, none⟩ ∧ b < U ∧ U ≤ w.heap.size ∧ PVs U w vs ls ∧ ∀ (i : Nat) (v : Value), vs[i]? = some v → w.cell? ⟨b, off + i, none⟩ = some v
theorem LsAt.kept {U : Nat} {w w' : World} {A : Option Addr} {ls : List (List Pr)} (h : LsAt U w A ls) (hb : Below U w w') : LsAt U w' A ls := by
  rcases h with h | ⟨b, off, vs, hA, hlt, hu, hv, hc⟩
  · exact .inl h
  · exact .inr ⟨b, off, vs, hA, hlt, Nat.le_trans hu hb.size, hv.kept hb, fun i v hi => (hb.cell (p := ⟨b, _, none⟩) hlt).trans (hc i v hi)⟩
theorem PV.cell1 {U : Nat} {w : World} {v : Value} {r : List Pr} (h : PV U w v r) : v.oneCell' = true := by
  obtain ⟨A, c, rfl, _⟩ := h; rfl
theorem info_sl : (Try.prog.info? 42).map (fun i => (i.zero, i.size, i.bytes)) = some (some (.slice none 0 0), 1, 24) := by kernel_rfl
theorem below_grownT {W w' : World} {base n size : Nat} {v : Value} {e : TypeId} {xs : List Value} (hown : W.ownsRow base e size v n xs) (hbase : base ≤ W.heap.size) (hg : W.grownBy w' v.ownBlock) : Below base W w' :=
  (Below.refl base W).grown hg hbase (fun k hk => by
    rcases hown.2 with ⟨rfl, _⟩ | ⟨g, cap, cur, rfl, hb, _⟩
    · simp [Value.ownBlock] at hk
    · simp [Value.ownBlock] at hk; omega)
theorem owns_emptyT (w : World) (T : TypeId) (size : Nat) : (w.alloc (.cells #[] T)).ownsRow w.heap.size T size (.slice (some ⟨w.heap.size, 0, none⟩) 0 0) 0 [] :=
  ⟨by simp, .inr ⟨w.heap.size, 0, #[], rfl, Nat.le_refl _, (MapKept.heap_alloc w _).1, Nat.le_refl _, Nat.zero_le _, by simp, by simp⟩⟩
/-- What Clone leaves. -/
def CloE (U : Nat) (w : World) (n : Nat) (ls : List (List Pr)) (e : Ending) (w' : World) : Prop :=
  ∃ v vs, e = .returned v ∧ w'.ownsRow w.heap.size 42 1 v n vs ∧ PVs U w' vs ls ∧ Below w.heap.size w w'
set_option maxRecDepth 100000 in
set_option maxHeartbeats 2000000 in
theorem clone_any {U : Nat} {w : World} {A : Option Addr} {c : Nat} {ls : List (List Pr)} (h : LsAt U w A ls) (h1 : 1 ≤ ls.length) (h2 : ls.length ≤ 64) :
    Calls Try.prog 29 #[.slice A ls.length c] w (CloE U w ls.length ls) := by
  obtain ⟨b, off, vs, rfl, hlt0, hu, hv, hc⟩ : ∃ (b off : Nat) (vs : List Value), A = some ⟨b, off, none⟩ ∧ b < U ∧ U ≤ w.heap.size ∧ PVs U w vs ls ∧ ∀ (i : Nat) (v : Value), vs[i]? = some v → w.cell? ⟨b, off + i, none⟩ = some v := by
    rcases h with h | h
    · subst h; simp at h1
    · exact h
  have hlt : b < w.heap.size := by omega
  obtain ⟨i0, hi, hz0, hz1, hz2⟩ := info_parts info_sl
  have hq := fun w : World => Lib.run_eql_slice_nil (P := Try.prog) w 40 42 (some ⟨b, off, none⟩) ls.length c 0 0 Try.underlying40
  have hb0 := ba w (.cells #[] 42)
  have hown := owns_emptyT w 42 1
  have HN := Lib.hid (show ∀ j u, vs[j]? = some u → (w.alloc (.cells #[] 42)).cell? ((⟨b, off, none⟩ : Addr).add j) = some u from fun j u hu => by
    have := (hb0.cell (p := ⟨b, off + j, none⟩) hlt).trans (hc j u hu)
    by_cases h0 : j = 0
    · subst h0; simpa [Addr.add] using this
    · simpa [Addr.add, h0] using this)
  have HO := Lib.hid (show ∀ u ∈ vs, u.oneCell' = true from fun u hu => by
    obtain ⟨j, hj, rfl⟩ := List.getElem_of_mem hu
    have := hv.1
    exact (hv.2 j _ _ (List.getElem?_eq_getElem hj) (List.getElem?_eq_getElem (by omega))).cell1)
  have HL := Lib.hid hv.1
  have HV := Lib.hid (hv.kept (hb0.mono hu))
  have HB := Lib.hid hb0
  have HW := Lib.hid hown
  obtain ⟨n, hn⟩ : ∃ n, n = ls.length := ⟨_, rfl⟩
  rw [← hn] at hq h1 h2 HL ⊢
  clear h hc hb0 hown hv hn
  go_enter Try.func29, Try.ntmps29
  go_wp2_with (at_builtin; refine wpList_append_own _ rfl _ _ 40 rfl w.heap.size 42 i0 _ 1 24 Try.underlying40 hi hz0 hz1 hz2 rfl (by decide) _ 0 [] rfl HW.out ⟨b, off, none⟩ n c vs rfl ?c0 HN.out HO.out ?c3 ?c4 ?c5 ?_)
  case c0 => rw [HL.out]; simp
  case c3 => simp [maxLen]; omega
  case c4 => omega
  case c5 => simp
  intro v' w1 hown1 hgrow1 _
  have HB1 := Lib.hid (HB.out.trans (below_grownT HW.out (by simp) hgrow1))
  have HO1 := Lib.hid hown1
  have HP1 := Lib.hid (HV.out.kept ((below_grownT HW.out (by simp) hgrow1).mono hu))
  clear hown1 hgrow1
  go_wp2_with fail
  go_ret
  refine ⟨_, vs, rfl, ?_, HP1.out, HB1.out⟩
  simpa using HO1.out
end Go.Proofs.Ytjcinhlghlcknaa
