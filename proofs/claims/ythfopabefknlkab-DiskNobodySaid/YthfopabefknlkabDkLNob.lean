/-
  DiskNobody (P5.2): for any call the law returns true, and it reads afterwards as before; no condition.
-/
import Derived.Test.YthfopabefknlkabRows
import Derived.Test.YthfopabefknlkabDkW1
import Derived.Lib.SmallJoins
import Derived.Deep.Grids
import Derived.ChangeSlices
import Derived.Deep.SlicePairs
import Derived.Test.YthfopabefknlkabLaw
import Derived.ProofKit
namespace Go.Proofs.Ythfopabefknlkab.diskNobody
open Go.ChangeShapes Go.WideShapes Go.ChangeAt Go.RowKit Go.Joins Go.Deep

theorem own : ownKnob Try.prog.godebug = none := by kernel_rfl
theorem laidOut : laidOutB Try.prog = true := by kernel_rfl

set_option maxRecDepth 100000 in
set_option maxHeartbeats 2000000 in
theorem lifted (os : Os) (started : os.Started) (H : Type) (enc : TypeId × Value → H) :
    ReturnsInHanded {} Try.checked os 7 .any (Rows.diskNobodySpec.pre6 enc Try.prog Try.f7 Rows.diskNobodyRow.domain false) (Rows.diskNobodySpec.post enc Try.prog Try.f7 false true false false) := by
  refine returnsInHanded_of_change (C := Try.checked) own started (by kernel_rfl) Try.func7
    (ChangeSpec.witness6 (enc := enc) (C := Try.checked) false ⟨#[], #[.agg #[.int .i64 0, .int .i64 0, .int .i64 0, .slice none 0 0]], []⟩ 8 (by kernel_rfl) (by kernel_rfl) (by kernel_rfl) (by kernel_rfl)) ?_
  intro W base args ds gs before hval0 hW hcnd _
  have hval : ∀ (j : Nat) t v, Try.f7.params[j]? = some t → args[j]? = some v → Value.okWide Try.prog W .any base t v := hval0
  have hW' := hW
  obtain ⟨p, q, hA0, hV, rfl, hfz, hnd⟩ := hW
  have hA : DataW.TrodAll enc Try.prog W 0 (fun _ => true) true Try.f7.params.toList args.toList ds p := hA0
  rw [Try.params7] at hA hval
  obtain ⟨v0, vs0, d0, ds0, p0, q0, hargs, rfl, rfl, h0, r0⟩ := trodAll_cons hA
  obtain ⟨rfl, rfl, rfl⟩ := trodAll_nil r0
  obtain rfl : args = #[v0] := by cases args; simp_all
  obtain ⟨rfl, rfl⟩ := trodVars_none hV
  obtain ⟨c0a, c1a, c2a, c3a, y0a, y1a, y2a, y3a, ma, rfl, rfl, rfl, hy0a, hy1a, hy2a, hy3a⟩ := open_agg4 Try.underlying47 (by kernel_rfl) (by kernel_rfl) (hval 0 47 _ rfl rfl) h0
  obtain ⟨k, e0a, rfl, _⟩ := DataW.trod_int Try.underlying3 hy0a
  obtain ⟨n, e1a, rfl, _⟩ := DataW.trod_int Try.underlying3 hy1a
  obtain ⟨z, e2a, rfl, _⟩ := DataW.trod_int Try.underlying3 hy2a
  obtain rfl : c0a = .int .i64 k := by simpa using e0a
  obtain rfl : c1a = .int .i64 n := by simpa using e1a
  obtain rfl : c2a = .int .i64 z := by simpa using e2a
  obtain ⟨A, N, c, hc, hN⟩ : ∃ A N c, c3a = .slice A N c ∧ N ≤ maxLen := by
    rcases open_slice Try.underlying45 hy3a with ⟨he, _⟩ | ⟨a, len, cap, m, n', D, Pl, he, _, hl, hm, _⟩
    · exact ⟨none, 0, 0, by simpa using he, Nat.zero_le _⟩
    · exact ⟨some a, len, cap, by simpa using he, Nat.le_trans hl hm⟩
  subst hc
  simp only [maxLen] at hN
  clear hA0 hval0
  refine (diskNobody_walk k n z A N c W (by omega)).mono fun e W' ⟨he, hb⟩ => ?_
  subst he
  exact ⟨_, rfl, law_post laidOut (by kernel_rfl) (tb := 4) (by kernel_rfl) Try.underlying4 rfl rfl hW' hb⟩

theorem said : Rows.DiskNobodySaid :=
  OpenClaim.holds_of_wide 7 Try.f7 rfl rfl rfl rfl rfl rfl rfl ⟨rfl, rfl, rfl, rfl, rfl⟩ rfl rfl rfl rfl rfl (by kernel_rfl) Try.func7 (by kernel_rfl)
    (of_decide_eq_true (by kernel_rfl)) (by unfold Func.isWrapper; first | (rw [if_pos (by decide +kernel)]; kernel_rfl) | (rw [if_neg (by decide +kernel)]; exact ⟨rfl, rfl⟩))
    (fun os started H enc _ => lifted os started H enc)
#print axioms said
end Go.Proofs.Ythfopabefknlkab.diskNobody
