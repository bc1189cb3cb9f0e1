/-
  Plain: what is read is what was made, and the other way round; the document's own reading is the same.
-/
import Derived.Test.YtdjhoiamongdaaaPgP
namespace Go.Proofs.Ytdjhoiamongdaaa
open Go.RowKit

theorem lenP_ge : ∀ rs : List (List Va), rs.length ≤ lenP rs
  | [] => Nat.zero_le _
  | r :: rs => by have := lenP_ge rs; rw [lenP_cons, List.length_cons]; unfold sizeR; omega
theorem fitsP_parts {rs : List (List Va)} (h : fitsP rs = true) : rs.length ≤ 255 ∧ 1 + lenP rs + 2 * rs.length ≤ 256 ∧ rs.length ≤ 85 := by
  simp [fitsP] at h
  have := lenP_ge rs
  omega
def frontP (rs : List (List Va)) : List Int := ((rs.length : Int) :: bodyP rs) ++ List.replicate (255 - 2 * rs.length - lenP rs) 0
theorem frontP_len {rs : List (List Va)} (h : fitsP rs = true) : (frontP rs).length = 256 - 2 * rs.length := by
  obtain ⟨_, h2, _⟩ := fitsP_parts h
  simp [frontP]
  have : (bodyP rs).length = lenP rs := rfl
  omega
theorem makeP_eq (rs : List (List Va)) : makeP rs = frontP rs ++ tailP (starts 1 rs) := rfl
theorem makeP_len {rs : List (List Va)} (h : fitsP rs = true) : (makeP rs).length = 256 := by
  obtain ⟨_, h2, _⟩ := fitsP_parts h
  rw [makeP_eq, List.length_append, frontP_len h, tailP_len, starts_len]; omega
theorem makeP_head (rs : List (List Va)) : (makeP rs).getD 0 0 = (rs.length : Int) := rfl
theorem makeP_front {rs : List (List Va)} (h : fitsP rs = true) : (makeP rs).take (256 - 2 * rs.length) = frontP rs := by
  rw [makeP_eq, List.take_append_of_le_length (by rw [frontP_len h]; exact Nat.le_refl _), List.take_of_length_le (by rw [frontP_len h]; exact Nat.le_refl _)]
theorem makeP_tail {rs : List (List Va)} (h : fitsP rs = true) : (makeP rs).drop (256 - 2 * rs.length) = tailP (starts 1 rs) := by
  rw [makeP_eq, List.drop_append_of_le_length (by rw [frontP_len h]; exact Nat.le_refl _), List.drop_eq_nil_of_le (by rw [frontP_len h]; exact Nat.le_refl _)]; rfl
theorem frontP_drop (rs : List (List Va)) : (frontP rs).drop 1 = bodyP rs ++ List.replicate (255 - 2 * rs.length - lenP rs) 0 := rfl
theorem frontP_rest (rs : List (List Va)) : (frontP rs).drop (1 + lenP rs) = List.replicate (255 - 2 * rs.length - lenP rs) 0 := by
  rw [← List.drop_drop, frontP_drop]
  show List.drop (bodyP rs).length _ = _
  rw [List.drop_append_of_le_length (Nat.le_refl _), List.drop_eq_nil_of_le (Nat.le_refl _)]; rfl

theorem make_openP {rs : List (List Va)} (hok : allOk rs) (h : fitsP rs = true) : openP (makeP rs) = some (rs, 1 + lenP rs) := by
  obtain ⟨_, h2, h3⟩ := fitsP_parts h
  have hl := makeP_len h
  have hpl : ∀ j s : Nat, (starts 1 rs)[j]? = some s → placeP (makeP rs) (0 + j) = (s : Int) := by
    refine of_places (makeP rs) hl (starts 1 rs) 0 (by rw [starts_len]; omega) ?_
    rw [starts_len, List.take_of_length_le (by omega), Nat.zero_add, makeP_tail h]
  have ho := openL_make (makeP rs) (256 - 2 * rs.length) rs 0 1 (List.replicate (255 - 2 * rs.length - lenP rs) 0) hok (by rw [makeP_front h, frontP_drop]) hpl
  unfold openP
  rw [if_pos hl, makeP_head, Int.toNat_natCast, if_neg (by omega), ho]
  simp only
  rw [makeP_front h, frontP_rest, if_neg (by simp)]
theorem zeros_of {l : List Int} (h : l.any (fun x => x != 0) = false) : l = List.replicate l.length 0 := by
  rw [List.eq_replicate_iff]
  refine ⟨rfl, fun x hx => ?_⟩
  rw [List.any_eq_false] at h
  simpa using h x hx
theorem openP_make {p : List Int} {rs : List (List Va)} {e : Nat} (hb : ∀ x ∈ p, 0 ≤ x ∧ x < 256) (h : openP p = some (rs, e)) : allOk rs ∧ fitsP rs = true ∧ makeP rs = p ∧ e = 1 + lenP rs := by
  unfold openP at h
  split at h
  case isFalse => cases h
  case isTrue hl =>
  split at h
  case isTrue => cases h
  case isFalse hn =>
  generalize hN : (p.getD 0 0).toNat = N at h hn
  have hp0 := hb (p.getD 0 0) (by simp [List.getD, show 0 < p.length by omega])
  have hpN : p.getD 0 0 = (N : Int) := by omega
  cases ho : openL p (256 - 2 * N) 0 N 1 with
  | none => rw [ho] at h; cases h
  | some q =>
    obtain ⟨rs', e'⟩ := q
    rw [ho] at h
    simp only at h
    split at h
    case isTrue => cases h
    case isFalse hz =>
    simp at h
    obtain ⟨rfl, rfl⟩ := h
    have hpl : (p.take (256 - 2 * N)).length = 256 - 2 * N := by simp; omega
    obtain ⟨h1, h2, h3, h4, h5, h6⟩ := openL_some p (256 - 2 * N) hb N 0 1 rs' e' (by omega) ho
    have hz' := zeros_of (by simpa using hz)
    rw [List.length_drop, hpl] at hz'
    rw [hpl] at h5
    have hfit : fitsP rs' = true := by simp [fitsP]; omega
    refine ⟨h2, hfit, ?_, h4⟩
    have ht := places_of p hl hb (starts 1 rs') 0 (by rw [starts_len]; omega) h6
    rw [starts_len, List.take_of_length_le (by omega), Nat.zero_add, h1] at ht
    have hf : p.take (256 - 2 * N) = frontP rs' := by
      have hc : p.take (256 - 2 * N) = p.getD 0 0 :: (p.take (256 - 2 * N)).drop 1 := by
        cases p with
        | nil => simp at hl
        | cons x p =>
          obtain ⟨m, hm⟩ : ∃ m, 256 - 2 * N = m + 1 := ⟨255 - 2 * N, by omega⟩
          rw [hm]; simp
      rw [hc, h3, hz', hpN, frontP, h1]
      simp only [List.cons_append]
      rw [show 256 - 2 * N - e' = 255 - 2 * N - lenP rs' by omega]
    rw [makeP_eq, ← hf, ← ht, List.take_append_drop]
theorem refP_eq {p : List Int} (hb : ∀ x ∈ p, 0 ≤ x ∧ x < 256) : refP p = (openP p).map Prod.fst := by
  cases ho : openP p with
  | some q =>
    obtain ⟨rs, e⟩ := q
    obtain ⟨h1, h2, h3, h4⟩ := openP_make hb ho
    obtain ⟨_, g2, g3⟩ := fitsP_parts h2
    have hl := makeP_len h2
    rw [← h3]
    have hr := refL_make (makeP rs) rs 1 (List.replicate (255 - 2 * rs.length - lenP rs) 0 ++ tailP (starts 1 rs)) h1 (by
      rw [makeP_eq, List.drop_append_of_le_length (by rw [frontP_len h2]; omega), frontP_drop, List.append_assoc]) (by omega)
    unfold refP
    rw [if_pos hl, makeP_head, Int.toNat_natCast, hr]
    simp [h2]
  | none =>
    unfold refP
    split
    case isFalse => rfl
    case isTrue hl =>
    cases hr : refL p (p.getD 0 0).toNat 1 with
    | none => rfl
    | some rs =>
      simp only
      split
      case isFalse => rfl
      case isTrue hx =>
      obtain ⟨hx1, hx2⟩ := hx
      have := make_openP (refL_ok p hb _ _ rs hr).2 hx1
      rw [hx2, ho] at this
      cases this
end Go.Proofs.Ytdjhoiamongdaaa
