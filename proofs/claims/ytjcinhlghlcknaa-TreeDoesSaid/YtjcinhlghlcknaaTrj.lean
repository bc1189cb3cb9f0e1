/-
  Package tree: the document's own leaves in memory, its Win; alike.
-/
import Derived.Test.YtjcinhlghlcknaaTrf
import Derived.Test.YtjcinhlghlcknaaTrh
import Derived.BigQuiet
import Derived.Deep.QuietTactic
namespace Go.Proofs.Ytjcinhlghlcknaa
open Go.RowKit

def lfC (L : List Lf) : List Value := L.flatMap fun l => [.int .i64 l.k, .int .i64 l.t, .bool l.b]
theorem lfC_get (L : List Lf) : ∀ i, i < L.length → (lfC L)[i * 3]? = some (.int .i64 (L.getD i noLf).k) ∧ (lfC L)[i * 3 + 1]? = some (.int .i64 (L.getD i noLf).t) ∧ (lfC L)[i * 3 + 2]? = some (.bool (L.getD i noLf).b) := by
  induction L with
  | nil => intro i hi; simp at hi
  | cons l L ih =>
    intro i hi
    cases i with
    | zero => exact ⟨rfl, rfl, rfl⟩
    | succ i =>
      have := ih i (by simpa using hi)
      rw [show (i + 1) * 3 = i * 3 + 1 + 1 + 1 by omega]
      exact this
theorem lfC_set (L : List Lf) : ∀ (i : Nat) (l : Lf), (((lfC L).set (i * 3) (.int .i64 l.k)).set (i * 3 + 1) (.int .i64 l.t)).set (i * 3 + 2) (.bool l.b) = lfC (L.set i l) := by
  induction L with
  | nil => intro i l; simp [lfC]
  | cons x L ih =>
    intro i l
    cases i with
    | zero => rfl
    | succ i =>
      rw [show (i + 1) * 3 = i * 3 + 1 + 1 + 1 by omega]
      simp only [lfC, List.flatMap_cons, List.cons_append, List.nil_append, List.set_cons_succ] at ih ⊢
      rw [ih i l]
/-- The document's own leaves in memory. -/
def XlAt (w : World) (X : Nat) (L : List Lf) : Prop := w.heap[X]? = some (.cells (lfC L).toArray 36 (0, 0))
section
variable {w w' : World} {X : Nat} {L : List Lf}
theorem XlAt.at (h : XlAt w X L) {i : Nat} (hi : i < L.length) : w.cell? ⟨X, i * 3, none⟩ = some (.int .i64 (L.getD i noLf).k) ∧ w.cell? ⟨X, i * 3 + 1, none⟩ = some (.int .i64 (L.getD i noLf).t) ∧ w.cell? ⟨X, i * 3 + 2, none⟩ = some (.bool (L.getD i noLf).b) := by
  have := lfC_get L i hi
  unfold XlAt at h
  simp only [World.cell?, h]
  simpa using this
theorem XlAt.fz (h : XlAt w X L) (i : Nat) : w.frozen? ⟨X, i, none⟩ = false := by unfold XlAt at h; simp [World.frozen?, h]
theorem XlAt.kept (h : XlAt w X L) (hb : Below w.heap.size w w') : XlAt w' X L := (hb.block X (block_ltT h)).trans h
theorem XlAt.put (h : XlAt w X L) (i : Nat) (l : Lf) : XlAt (((w.setCell ⟨X, i * 3, none⟩ (.int .i64 l.k)).setCell ⟨X, i * 3 + 1, none⟩ (.int .i64 l.t)).setCell ⟨X, i * 3 + 2, none⟩ (.bool l.b)) X (L.set i l) := by
  unfold XlAt at h ⊢
  simp only [World.setCell, Array.getElem?_modify, if_true, h]
  rw [← lfC_set]
  simp
set_option maxRecDepth 100000 in
set_option maxHeartbeats 4000000 in
/-- The document's own Win. -/
theorem rwin_any (h : XlAt w X L) (hn : L.length ≤ 64) {c : Nat} :
    Calls Try.prog 28 #[.slice (some ⟨X, 0, none⟩) L.length c] w fun e w' => e = .returned (.int .i64 (wnr L)) ∧ Below w.heap.size w w' := by
  have HX := Lib.hid h
  obtain ⟨N, hN⟩ : ∃ N, N = L.length := ⟨_, rfl⟩
  rw [← hN] at hn ⊢
  have HN := Lib.hid hN
  clear h hN
  go_enter Try.func28, Try.ntmps28
  go_wp2_with fail
  go_loopw [3, 4] (fun bb ii wr => ∃ i : Nat, ii = .int .i64 i ∧ i ≤ N ∧ bb = .int .i64 (winN L i) ∧ Hid (Below w.heap.size w wr)) (fun _ ii _ => N - (intOf ii).toNat)
  case atStart => exact ⟨0, rfl, Nat.zero_le _, rfl, Lib.hid (Below.refl _ _)⟩
  case round =>
    obtain ⟨i, rfl, hi, rfl, HB⟩ := hrel
    by_cases hlt : i < N
    · have hil : i < L.length := by have := HN.out; omega
      have hltI : (i : Int) < (N : Int) := by omega
      have HXr := Lib.hid (HX.out.kept HB.out)
      obtain ⟨c0, _, c2⟩ := HXr.out.at hil
      cases hb : (L.getD i noLf).b with
      | false =>
        have HW := Lib.hid (winN_no hb)
        rw [hb] at c2
        clear hil hb
        go_wp2_with fail
        go_quiet (fail)
        go_wp2_with fail
        go_roundw
        case rel => exact ⟨i + 1, by go_num, hlt, by rw [HW.out], Lib.hid (bt HB.out (drNT _ _))⟩
        case measure => simp [intOf]; omega
      | true =>
        rw [hb] at c2
        rcases winN_range L i with hw | ⟨k, hw, hk, hkb⟩
        · have HW := Lib.hid (winN_first hb hw)
          rw [hw]
          clear hil hb hw
          go_wp2_with fail
          go_quiet (fail)
          go_wp2_with fail
          go_roundw
          case rel => exact ⟨i + 1, by go_num, hlt, by rw [HW.out], Lib.hid (bt HB.out (drNT _ _))⟩
          case measure => simp [intOf]; omega
        · have hkl : k < L.length := by omega
          obtain ⟨d0, _, _⟩ := HXr.out.at hkl
          have hkN : k < N := by omega
          have hkI : (k : Int) < (N : Int) := by omega
          by_cases hlss : (L.getD i noLf).k < (L.getD k noLf).k
          · have HW := Lib.hid (winN_less hb hw hlss)
            generalize (L.getD i noLf).k = x at c0 hlss
            generalize (L.getD k noLf).k = y at d0 hlss
            rw [hw]
            clear hil hb hw hkl hkb
            go_wp2_with fail
            go_quiet (fail)
            go_wp2_with fail
            go_roundw
            case rel => exact ⟨i + 1, by go_num, hlt, by rw [HW.out], Lib.hid (bt HB.out (drNT _ _))⟩
            case measure => simp [intOf]; omega
          · have HW := Lib.hid (winN_more hw hlss)
            generalize (L.getD i noLf).k = x at c0 hlss
            generalize (L.getD k noLf).k = y at d0 hlss
            rw [hw]
            clear hil hb hw hkl hkb
            go_wp2_with fail
            go_quiet (fail)
            go_wp2_with fail
            go_roundw
            case rel => exact ⟨i + 1, by go_num, hlt, by rw [HW.out], Lib.hid (bt HB.out (drNT _ _))⟩
            case measure => simp [intOf]; omega
    · have HE := Lib.hid (show wnr L = winN L i by unfold wnr; rw [show L.length = i by have := HN.out; omega])
      go_wp2_with fail
      go_ret
      exact ⟨ret_int HE.out.symm, HB.out⟩
end
end Go.Proofs.Ytjcinhlghlcknaa
