/-
  Plain: pages: a page's bytes of rows; the rows of bytes, as they are read; a page has just one way to be.
-/
import Derived.Test.YtdjhoiamongdaaaRGts0
namespace Go.Proofs.Ytdjhoiamongdaaa
open Go.RowKit

def sizeR (r : List Va) : Nat := 1 + sumV r
theorem sizeR_len (r : List Va) : (putR r).length = sizeR r := putR_length r
def bodyP (rs : List (List Va)) : List Int := rs.flatMap putR
def lenP (rs : List (List Va)) : Nat := (bodyP rs).length
theorem bodyP_cons (r : List Va) (rs : List (List Va)) : bodyP (r :: rs) = putR r ++ bodyP rs := rfl
theorem lenP_cons (r : List Va) (rs : List (List Va)) : lenP (r :: rs) = sizeR r + lenP rs := by simp [lenP, bodyP_cons, sizeR_len]
/-- Where rows begin, from a place on; these places, as they stand at a page's end. -/
def starts : Nat → List (List Va) → List Nat
  | _, [] => []
  | e, r :: rs => e :: starts (e + sizeR r) rs
def tailP : List Nat → List Int
  | [] => []
  | s :: ss => tailP ss ++ [((s / 256 : Nat) : Int), ((s % 256 : Nat) : Int)]
theorem starts_len (e : Nat) (rs : List (List Va)) : (starts e rs).length = rs.length := by
  induction rs generalizing e with
  | nil => rfl
  | cons r rs ih => simp [starts, ih]
theorem tailP_len (ss : List Nat) : (tailP ss).length = 2 * ss.length := by
  induction ss with
  | nil => rfl
  | cons s ss ih => simp [tailP, ih]; omega
theorem starts_le (e : Nat) (rs : List (List Va)) : ∀ s ∈ starts e rs, s ≤ e + lenP rs := by
  induction rs generalizing e with
  | nil => intro s hs; cases hs
  | cons r rs ih =>
    intro s hs
    rw [lenP_cons]
    rcases List.mem_cons.1 hs with rfl | hs
    · omega
    · have := ih _ s hs; omega
/-- A page's bytes, if its rows fit together. -/
def fitsP (rs : List (List Va)) : Bool := decide (rs.length ≤ 255) && decide (1 + lenP rs + 2 * rs.length ≤ 256)
def makeP (rs : List (List Va)) : List Int :=
  ((rs.length : Int) :: bodyP rs) ++ List.replicate (255 - 2 * rs.length - lenP rs) 0 ++ tailP (starts 1 rs)
def allOk (rs : List (List Va)) : Prop := ∀ r ∈ rs, okR r = true

/-- Where row i begins, by the page. -/
def placeP (p : List Int) (i : Nat) : Int := p.getD (254 - 2 * i) 0 * 256 + p.getD (255 - 2 * i) 0
def openL (p : List Int) (pl : Nat) : Nat → Nat → Nat → Option (List (List Va) × Nat)
  | _, 0, e => some ([], e)
  | i, k + 1, e => match getRow ((p.take pl).drop e) with
    | none => none
    | some (r, n) => if placeP p i = e then (match openL p pl (i + 1) k (e + n) with | none => none | some (rs, e') => some (r :: rs, e')) else none
def openP (p : List Int) : Option (List (List Va) × Nat) :=
  if p.length = 256 then
    (if 127 < (p.getD 0 0).toNat then none
     else match openL p (256 - 2 * (p.getD 0 0).toNat) 0 (p.getD 0 0).toNat 1 with
      | none => none
      | some (rs, e) => if ((p.take (256 - 2 * (p.getD 0 0).toNat)).drop e).any (fun x => x != 0) then none else some (rs, e))
  else none
def refL (p : List Int) : Nat → Nat → Option (List (List Va))
  | 0, _ => some []
  | k + 1, e => if 256 < e then none else match getRow (p.drop e) with
    | none => none
    | some (r, n) => (match refL p k (e + n) with | none => none | some rs => some (r :: rs))
def refP (p : List Int) : Option (List (List Va)) :=
  if p.length = 256 then
    (match refL p (p.getD 0 0).toNat 1 with
      | none => none
      | some rs => if fitsP rs = true ∧ makeP rs = p then some rs else none)
  else none

theorem take_two (p : List Int) (k : Nat) (h : k + 2 ≤ p.length) : p.take (k + 2) = p.take k ++ [p.getD k 0, p.getD (k + 1) 0] := by
  have e1 : p.getD k 0 = p[k] := by simp [List.getD, show k < p.length by omega]
  have e2 : p.getD (k + 1) 0 = p[k + 1] := by simp [List.getD, show k + 1 < p.length by omega]
  have h1 := List.take_succ_eq_append_getElem (l := p) (i := k + 1) (by omega)
  have h2 := List.take_succ_eq_append_getElem (l := p) (i := k) (by omega)
  rw [e1, e2, show k + 2 = k + 1 + 1 from rfl, h1, h2, List.append_assoc]
  rfl
theorem places_of (p : List Int) (hp : p.length = 256) (hb : ∀ x ∈ p, 0 ≤ x ∧ x < 256) : ∀ (ss : List Nat) (i : Nat), i + ss.length ≤ 128 → (∀ j s : Nat, ss[j]? = some s → placeP p (i + j) = (s : Int)) →
    (p.take (256 - 2 * i)).drop (256 - 2 * (i + ss.length)) = tailP ss
  | [], i, _, _ => by simp [tailP]
  | s :: ss, i, hl, h => by
    simp only [List.length_cons] at hl ⊢
    have h0 := h 0 s rfl
    have ih := places_of p hp hb ss (i + 1) (by omega) (fun j s' hs => by
      have := h (j + 1) s' (by simpa using hs)
      rw [show i + 1 + j = i + (j + 1) by omega]; exact this)
    have e1 : 256 - 2 * i = 254 - 2 * i + 2 := by omega
    have e2 : 256 - 2 * (i + 1) = 254 - 2 * i := by omega
    rw [e2, show i + 1 + ss.length = i + (ss.length + 1) by omega] at ih
    rw [e1, take_two p _ (by omega), tailP, ← ih, List.drop_append_of_le_length (by simp; omega)]
    congr 1
    have hx := hb (p.getD (254 - 2 * i) 0) (by simp [List.getD, show 254 - 2 * i < p.length by omega])
    have hy := hb (p.getD (254 - 2 * i + 1) 0) (by simp [List.getD, show 254 - 2 * i + 1 < p.length by omega])
    unfold placeP at h0
    rw [Nat.add_zero, show 255 - 2 * i = 254 - 2 * i + 1 by omega] at h0
    generalize p.getD (254 - 2 * i) 0 = a at hx h0 ⊢
    generalize p.getD (254 - 2 * i + 1) 0 = b at hy h0 ⊢
    have ea : a = ((s / 256 : Nat) : Int) := by omega
    have eb : b = ((s % 256 : Nat) : Int) := by omega
    rw [ea, eb]
theorem of_places (p : List Int) (hp : p.length = 256) : ∀ (ss : List Nat) (i : Nat), i + ss.length ≤ 128 → (p.take (256 - 2 * i)).drop (256 - 2 * (i + ss.length)) = tailP ss →
    ∀ j s : Nat, ss[j]? = some s → placeP p (i + j) = (s : Int)
  | [], i, _, _, j, s, h => by simp at h
  | s :: ss, i, hl, ht, j, s', h => by
    simp only [List.length_cons] at hl ht
    have e1 : 256 - 2 * i = 254 - 2 * i + 2 := by omega
    rw [e1, take_two p _ (by omega), tailP, List.drop_append_of_le_length (by simp; omega)] at ht
    obtain ⟨h1, h2⟩ := List.append_inj' ht (by simp)
    simp at h2
    cases j with
    | zero =>
      simp at h
      subst h
      unfold placeP
      rw [Nat.add_zero, show 255 - 2 * i = 254 - 2 * i + 1 by omega]
      rw [List.getD, List.getD, h2.1, h2.2]
      omega
    | succ j =>
      have := of_places p hp ss (i + 1) (by omega) (by
        rw [show 256 - 2 * (i + 1) = 254 - 2 * i by omega, show i + 1 + ss.length = i + (ss.length + 1) by omega]; exact h1) j s' (by simpa using h)
      rw [show i + (j + 1) = i + 1 + j by omega]; exact this

theorem openL_some (p : List Int) (pl : Nat) (hb : ∀ x ∈ p, 0 ≤ x ∧ x < 256) : ∀ (k i e : Nat) (rs : List (List Va)) (e' : Nat), e ≤ (p.take pl).length → openL p pl i k e = some (rs, e') →
    rs.length = k ∧ allOk rs ∧ (p.take pl).drop e = bodyP rs ++ (p.take pl).drop e' ∧ e' = e + lenP rs ∧ e' ≤ (p.take pl).length ∧ ∀ j s : Nat, (starts e rs)[j]? = some s → placeP p (i + j) = (s : Int)
  | 0, i, e, rs, e', he, h => by
    simp [openL] at h
    obtain ⟨rfl, rfl⟩ := h
    exact ⟨rfl, (fun r hr => by cases hr), by simp [bodyP], by simp [lenP, bodyP], he, fun j s hs => by simp [starts] at hs⟩
  | k + 1, i, e, rs, e', he, h => by
    rw [openL] at h
    cases hg : getRow ((p.take pl).drop e) with
    | none => rw [hg] at h; cases h
    | some q =>
      obtain ⟨r, n⟩ := q
      rw [hg] at h
      simp only at h
      obtain ⟨hok, hput, hn, hn1⟩ := getRow_some (fun x hx => hb x (List.mem_of_mem_take (List.mem_of_mem_drop hx))) hg
      by_cases hpl : placeP p i = e
      · rw [if_pos hpl] at h
        cases hr : openL p pl (i + 1) k (e + n) with
        | none => rw [hr] at h; cases h
        | some q2 =>
          obtain ⟨rs2, e2⟩ := q2
          rw [hr] at h
          simp at h
          obtain ⟨rfl, rfl⟩ := h
          have hsz : n = sizeR r := by
            rw [← sizeR_len, hput, List.length_take]; omega
          rw [List.length_drop] at hn
          obtain ⟨h1, h2, h3, h4, h5, h6⟩ := openL_some p pl hb k (i + 1) (e + n) rs2 e2 (by omega) hr
          refine ⟨by simp [h1], ?_, ?_, by rw [lenP_cons]; omega, h5, ?_⟩
          · intro x hx
            rcases List.mem_cons.1 hx with rfl | hx
            · exact hok
            · exact h2 x hx
          · rw [bodyP_cons, List.append_assoc, ← h3, hput, ← List.drop_drop, List.take_append_drop]
          · intro j s hs
            cases j with
            | zero => simp [starts] at hs; subst hs; simpa using hpl
            | succ j =>
              simp [starts] at hs
              rw [← hsz] at hs
              have := h6 j s hs
              rw [show i + (j + 1) = i + 1 + j by omega]; exact this
      · rw [if_neg hpl] at h; cases h
theorem openL_make (p : List Int) (pl : Nat) : ∀ (rs : List (List Va)) (i e : Nat) (t : List Int), allOk rs → (p.take pl).drop e = bodyP rs ++ t → (∀ j s : Nat, (starts e rs)[j]? = some s → placeP p (i + j) = (s : Int)) →
    openL p pl i rs.length e = some (rs, e + lenP rs)
  | [], i, e, t, _, _, _ => by simp [openL, lenP, bodyP]
  | r :: rs, i, e, t, hok, hd, hpl => by
    rw [List.length_cons, openL]
    rw [bodyP_cons, List.append_assoc] at hd
    rw [hd, getRow_putR r (hok r (by simp)) (bodyP rs ++ t)]
    simp only
    have h0 := hpl 0 e rfl
    rw [Nat.add_zero] at h0
    rw [if_pos h0]
    have hd2 : (p.take pl).drop (e + sizeR r) = bodyP rs ++ t := by
      rw [← List.drop_drop, hd, List.drop_append_of_le_length (by rw [sizeR_len]; exact Nat.le_refl _), List.drop_eq_nil_of_le (by rw [sizeR_len]; exact Nat.le_refl _)]; rfl
    have := openL_make p pl rs (i + 1) (e + sizeR r) t (fun x hx => hok x (by simp [hx])) hd2 (fun j s hs => by
      have := hpl (j + 1) s (by simpa [starts] using hs)
      rw [show i + 1 + j = i + (j + 1) by omega]; exact this)
    rw [show e + (1 + sumV r) = e + sizeR r from rfl, this, lenP_cons]
    simp only
    rw [Nat.add_assoc]
theorem refL_make (p : List Int) : ∀ (rs : List (List Va)) (e : Nat) (t : List Int), allOk rs → p.drop e = bodyP rs ++ t → e + lenP rs ≤ 256 → refL p rs.length e = some rs
  | [], e, t, _, _, _ => rfl
  | r :: rs, e, t, hok, hd, hle => by
    rw [lenP_cons] at hle
    rw [List.length_cons, refL, if_neg (by omega)]
    rw [bodyP_cons, List.append_assoc] at hd
    rw [hd, getRow_putR r (hok r (by simp)) (bodyP rs ++ t)]
    simp only
    have hd2 : p.drop (e + sizeR r) = bodyP rs ++ t := by
      rw [← List.drop_drop, hd, List.drop_append_of_le_length (by rw [sizeR_len]; exact Nat.le_refl _), List.drop_eq_nil_of_le (by rw [sizeR_len]; exact Nat.le_refl _)]; rfl
    have := refL_make p rs (e + sizeR r) t (fun x hx => hok x (by simp [hx])) hd2 (by omega)
    rw [show e + (1 + sumV r) = e + sizeR r from rfl, this]
theorem refL_ok (p : List Int) (hb : ∀ x ∈ p, 0 ≤ x ∧ x < 256) : ∀ (k e : Nat) (rs : List (List Va)), refL p k e = some rs → rs.length = k ∧ allOk rs
  | 0, e, rs, h => by
    simp [refL] at h
    subst h
    exact ⟨rfl, fun r hr => by cases hr⟩
  | k + 1, e, rs, h => by
    rw [refL] at h
    split at h
    · cases h
    · cases hg : getRow (p.drop e) with
      | none => rw [hg] at h; cases h
      | some q =>
        obtain ⟨r, n⟩ := q
        rw [hg] at h
        simp only at h
        cases hr : refL p k (e + n) with
        | none => rw [hr] at h; cases h
        | some rs2 =>
          rw [hr] at h
          simp at h
          subst h
          obtain ⟨h1, h2⟩ := refL_ok p hb k (e + n) rs2 hr
          obtain ⟨hok, _⟩ := getRow_some (fun x hx => hb x (List.mem_of_mem_drop hx)) hg
          refine ⟨by simp [h1], fun x hx => ?_⟩
          rcases List.mem_cons.1 hx with rfl | hx
          · exact hok
          · exact h2 x hx
end Go.Proofs.Ytdjhoiamongdaaa
