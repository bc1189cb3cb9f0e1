/-
  Package tree: leaves, and who wins among them. Nothing of the program stands here.
-/
import Derived.Test.YtjcinhlghlcknaaPlain
import Derived.Lib.Hide
namespace Go.Proofs.Ytjcinhlghlcknaa
open Go.RowKit

/-- A leaf: its thing's key and tag, and does it hold it. -/
structure Lf where
  k : Int
  t : Int
  b : Bool
instance : Inhabited Lf := ⟨⟨0, 0, false⟩⟩
def noLf : Lf := ⟨0, 0, false⟩
def keyT (L : List Lf) (a : Int) : Int := (L.getD a.toNat noLf).k
/-- The one of two leaves that wins. -/
def betT (L : List Lf) (a b : Int) : Int := if a = -1 then b else if b = -1 then a else if keyT L a ≤ keyT L b then a else b
/-- Is j above k, or k? -/
def UpT (k j : Nat) : Prop := ∃ i, j = k / 2 ^ i
theorem UpT.self (k : Nat) : UpT k k := ⟨0, by simp⟩
theorem UpT.half {k j : Nat} (h : UpT k (2 * j) ∨ UpT k (2 * j + 1)) : UpT k j := by
  rcases h with ⟨i, hi⟩ | ⟨i, hi⟩
  · exact ⟨i + 1, by rw [Nat.pow_succ, ← Nat.div_div_eq_div_mul, ← hi]; omega⟩
  · exact ⟨i + 1, by rw [Nat.pow_succ, ← Nat.div_div_eq_div_mul, ← hi]; omega⟩
theorem UpT.up {k j : Nat} (h : UpT k j) : j = k ∨ UpT (k / 2) j := by
  obtain ⟨i, hi⟩ := h
  cases i with
  | zero => exact .inl (by simpa using hi)
  | succ i => exact .inr ⟨i, by rw [hi, Nat.pow_succ, Nat.mul_comm, ← Nat.div_div_eq_div_mul]⟩
theorem UpT.zero {j : Nat} (h : UpT 0 j) : j = 0 := by
  obtain ⟨i, hi⟩ := h
  simpa using hi

/-- The winners of all places but those from k upwards. -/
structure WnX (L : List Lf) (m : Nat) (W : List Int) (k : Nat) : Prop where
  len : W.length = 2 * m
  n : 1 ≤ L.length ∧ L.length ≤ m
  leaf : ∀ i, i < m → W.getD (m + i) (-1) = if (L.getD i noLf).b then (i : Int) else -1
  inn : ∀ j, 1 ≤ j → j < 2 * m → W.getD j (-1) = -1 ∨ ∃ i : Nat, W.getD j (-1) = i ∧ i < L.length ∧ UpT (m + i) j
  loc : ∀ j, 1 ≤ j → j < m → ¬ UpT k j → W.getD j (-1) = betT L (W.getD (2 * j) (-1)) (W.getD (2 * j + 1) (-1))
theorem getD_set_self {l : List Int} {i : Nat} (h : i < l.length) (v d : Int) : (l.set i v).getD i d = v := by
  simp [List.getD_eq_getElem?_getD, h]
theorem getD_set_ne {l : List Int} {i j : Nat} (h : i ≠ j) (v d : Int) : (l.set i v).getD j d = l.getD j d := by
  simp [List.getD_eq_getElem?_getD, h]
theorem getL_set_self {l : List Lf} {i : Nat} (h : i < l.length) (v : Lf) : (l.set i v).getD i noLf = v := by
  simp [List.getD_eq_getElem?_getD, h]
theorem getL_set_ne {l : List Lf} {i j : Nat} (h : i ≠ j) (v : Lf) : (l.set i v).getD j noLf = l.getD j noLf := by
  simp [List.getD_eq_getElem?_getD, h]
theorem betT_or (L : List Lf) (a b : Int) : betT L a b = a ∨ betT L a b = b := by
  unfold betT; split
  · exact .inr rfl
  · split
    · exact .inl rfl
    · split
      · exact .inl rfl
      · exact .inr rfl
theorem WnX.step {L : List Lf} {m : Nat} {W : List Int} {k : Nat} (h : WnX L m W k) (h1 : 1 ≤ k) (hk : k < m) :
    WnX L m (W.set k (betT L (W.getD (2 * k) (-1)) (W.getD (2 * k + 1) (-1)))) (k / 2) := by
  have hl := h.len
  refine ⟨by rw [List.length_set]; exact hl, h.n, fun i hi => ?_, fun j hj1 hj => ?_, fun j hj1 hj hu => ?_⟩
  · rw [getD_set_ne (by omega)]; exact h.leaf i hi
  · by_cases e : k = j
    · subst e
      rw [getD_set_self (by omega)]
      have g1 := h.inn (2 * k) (by omega) (by omega)
      have g2 := h.inn (2 * k + 1) (by omega) (by omega)
      rcases betT_or L (W.getD (2 * k) (-1)) (W.getD (2 * k + 1) (-1)) with e1 | e1
      · rw [e1]
        rcases g1 with g | ⟨i, gi, gn, gu⟩
        · exact .inl g
        · exact .inr ⟨i, gi, gn, .half (.inl gu)⟩
      · rw [e1]
        rcases g2 with g | ⟨i, gi, gn, gu⟩
        · exact .inl g
        · exact .inr ⟨i, gi, gn, .half (.inr gu)⟩
    · rw [getD_set_ne e]; exact h.inn j hj1 hj
  · by_cases e : k = j
    · subst e
      rw [getD_set_self (by omega), getD_set_ne (by omega), getD_set_ne (by omega)]
    · have hne : ¬ UpT k j := fun hh => by
        rcases hh.up with h2 | h2
        · exact e h2.symm
        · exact hu h2
      have n1 : k ≠ 2 * j := fun e2 => hu (by rw [e2, Nat.mul_div_cancel_left _ (by omega)]; exact UpT.self j)
      have n2 : k ≠ 2 * j + 1 := fun e2 => hu (by rw [e2, show (2 * j + 1) / 2 = j by omega]; exact UpT.self j)
      rw [getD_set_ne e, getD_set_ne n1, getD_set_ne n2]
      exact h.loc j hj1 hj hne
/-- A leaf holds another thing, or none: its own place is told. -/
theorem WnX.start {L : List Lf} {m : Nat} {W : List Int} (h : WnX L m W 0) {i : Nat} (hi : i < L.length) (l : Lf) {v : Int} (hv : v = if l.b then (i : Int) else -1) :
    WnX (L.set i l) m (W.set (m + i) v) ((m + i) / 2) := by
  have hl := h.len
  have hn := h.n
  subst hv
  refine ⟨by rw [List.length_set]; exact hl, by rw [List.length_set]; exact hn, fun q hq => ?_, fun j hj1 hj => ?_, fun j hj1 hj hu => ?_⟩
  · by_cases e : i = q
    · subst e
      rw [getD_set_self (by omega), getL_set_self hi]
    · rw [getD_set_ne (by omega), getL_set_ne e]; exact h.leaf q hq
  · by_cases e : m + i = j
    · subst e
      rw [getD_set_self (by omega)]
      cases l.b with
      | true => exact .inr ⟨i, by simp, by rw [List.length_set]; exact hi, UpT.self _⟩
      | false => exact .inl (by simp)
    · rw [getD_set_ne e, List.length_set]; exact h.inn j hj1 hj
  · have n1 : m + i ≠ 2 * j := fun e2 => hu (by rw [e2, Nat.mul_div_cancel_left _ (by omega)]; exact UpT.self j)
    have n2 : m + i ≠ 2 * j + 1 := fun e2 => hu (by rw [e2, show (2 * j + 1) / 2 = j by omega]; exact UpT.self j)
    rw [getD_set_ne (by omega), getD_set_ne n1, getD_set_ne n2]
    have h0 := h.loc j hj1 hj (fun hh => by have := hh.zero; omega)
    rw [h0]
    have off : ∀ c, c = 2 * j ∨ c = 2 * j + 1 → keyT (L.set i l) (W.getD c (-1)) = keyT L (W.getD c (-1)) ∨ W.getD c (-1) = -1 := fun c hc => by
      rcases h.inn c (by omega) (by omega) with g | ⟨q, gq, gn, gu⟩
      · exact .inr g
      · left
        have hne : i ≠ q := fun e => by
          subst e
          rcases gu.up with g2 | g2
          · rcases hc with rfl | rfl
            · exact n1 g2.symm
            · exact n2 g2.symm
          · exact hu (.half (by rcases hc with rfl | rfl; exact .inl g2; exact .inr g2))
        unfold keyT
        rw [gq, Int.toNat_natCast, getL_set_ne hne]
    unfold betT
    by_cases ea : W.getD (2 * j) (-1) = -1
    · rw [if_pos ea, if_pos ea]
    · by_cases eb : W.getD (2 * j + 1) (-1) = -1
      · rw [if_neg ea, if_neg ea, if_pos eb, if_pos eb]
      · rcases off _ (.inl rfl) with o1 | o1
        · rcases off _ (.inr rfl) with o2 | o2
          · rw [o1, o2]
          · exact absurd o2 eb
        · exact absurd o1 ea
/-- The winner of the leaves from lo to hi. -/
def isW (L : List Lf) (lo hi : Nat) (r : Int) : Prop :=
  (r = -1 ∧ ∀ i, lo ≤ i → i < hi → (L.getD i noLf).b = false) ∨
  ∃ j : Nat, r = j ∧ lo ≤ j ∧ j < hi ∧ (L.getD j noLf).b = true ∧ ∀ i, lo ≤ i → i < hi → (L.getD i noLf).b = true → (L.getD j noLf).k ≤ (L.getD i noLf).k ∧ (i < j → (L.getD j noLf).k < (L.getD i noLf).k)
theorem isW.bet {L : List Lf} {lo mid hi : Nat} {a b : Int} (h1 : isW L lo mid a) (h2 : isW L mid hi b) (l1 : lo ≤ mid) (l2 : mid ≤ hi) : isW L lo hi (betT L a b) := by
  rcases h1 with ⟨ra, ha⟩ | ⟨j, ra, j1, j2, jb, ja⟩
  · subst ra
    rw [show betT L (-1) b = b by simp [betT]]
    rcases h2 with ⟨rb, hb⟩ | ⟨q, rb, q1, q2, qb, qa⟩
    · exact .inl ⟨rb, fun i i1 i2 => by
        rcases Nat.lt_or_ge i mid with h | h
        · exact ha i i1 h
        · exact hb i h i2⟩
    · refine .inr ⟨q, rb, by omega, q2, qb, fun i i1 i2 ib => ?_⟩
      rcases Nat.lt_or_ge i mid with h | h
      · rw [ha i i1 h] at ib; cases ib
      · exact qa i h i2 ib
  · subst ra
    rcases h2 with ⟨rb, hb⟩ | ⟨q, rb, q1, q2, qb, qa⟩
    · subst rb
      rw [show betT L (j : Int) (-1) = j by unfold betT; rw [if_neg (by omega), if_pos rfl]]
      refine .inr ⟨j, rfl, j1, by omega, jb, fun i i1 i2 ib => ?_⟩
      rcases Nat.lt_or_ge i mid with h | h
      · exact ja i i1 h ib
      · rw [hb i h i2] at ib; cases ib
    · subst rb
      unfold betT
      rw [if_neg (by omega), if_neg (by omega)]
      unfold keyT
      simp only [Int.toNat_natCast]
      split
      · rename_i hk
        refine .inr ⟨j, rfl, j1, by omega, jb, fun i i1 i2 ib => ?_⟩
        rcases Nat.lt_or_ge i mid with h | h
        · exact ja i i1 h ib
        · have := (qa i h i2 ib).1
          exact ⟨by omega, fun hij => by omega⟩
      · rename_i hk
        refine .inr ⟨q, rfl, by omega, q2, qb, fun i i1 i2 ib => ?_⟩
        rcases Nat.lt_or_ge i mid with h | h
        · have := (ja i i1 h ib).1
          exact ⟨by omega, fun _ => by omega⟩
        · exact qa i h i2 ib
theorem isW.one {L : List Lf} {r : Int} (h : isW L 0 L.length r) : ∀ {r' : Int}, isW L 0 L.length r' → r = r' := fun {r'} h' => by
  rcases h with ⟨ra, ha⟩ | ⟨j, ra, j1, j2, jb, ja⟩
  · rcases h' with ⟨rb, hb⟩ | ⟨q, rb, q1, q2, qb, qa⟩
    · rw [ra, rb]
    · rw [ha q q1 q2] at qb; cases qb
  · rcases h' with ⟨rb, hb⟩ | ⟨q, rb, q1, q2, qb, qa⟩
    · rw [hb j j1 j2] at jb; cases jb
    · have c1 := ja q q1 q2 qb
      have c2 := qa j j1 j2 jb
      have : j = q := by
        rcases Nat.lt_trichotomy j q with h | h | h
        · have := c2.2 h; omega
        · exact h
        · have := c1.2 h; omega
      rw [ra, rb, this]
theorem WnX.seg {L : List Lf} {m : Nat} {W : List Int} (h : WnX L m W 0) : ∀ (g q : Nat), m = 2 ^ g * q → ∀ k, q ≤ k → k < 2 * q → isW L (k * 2 ^ g - m) ((k + 1) * 2 ^ g - m) (W.getD k (-1)) := by
  intro g
  induction g with
  | zero =>
    intro q hm k h1 h2
    simp only [Nat.pow_zero, Nat.one_mul, Nat.mul_one] at hm ⊢
    subst hm
    have hlf := h.leaf (k - m) (by omega)
    rw [show m + (k - m) = k by omega] at hlf
    rw [hlf]
    cases hb : (L.getD (k - m) noLf).b with
    | true =>
      refine .inr ⟨k - m, by simp, Nat.le_refl _, by omega, hb, fun i i1 i2 _ => ?_⟩
      have : i = k - m := by omega
      subst this
      exact ⟨Int.le_refl _, fun hh => by omega⟩
    | false => exact .inl ⟨by simp, fun i i1 i2 => by rw [show i = k - m by omega]; exact hb⟩
  | succ g ih =>
    intro q hm k h1 h2
    have hm2 : m = 2 ^ g * (2 * q) := by rw [hm, Nat.pow_succ, Nat.mul_assoc]
    have hp : 0 < 2 ^ g := Nat.two_pow_pos g
    have hkm : k < m := by
      have : 1 * (2 * q) ≤ 2 ^ g * (2 * q) := Nat.mul_le_mul_right _ hp
      omega
    have a := ih (2 * q) hm2 (2 * k) (by omega) (by omega)
    have b := ih (2 * q) hm2 (2 * k + 1) (by omega) (by omega)
    have e1 : 2 * k * 2 ^ g = k * 2 ^ (g + 1) := by rw [Nat.pow_succ]; simp only [Nat.mul_comm, Nat.mul_assoc]
    have e2 : (2 * k + 1 + 1) * 2 ^ g = (k + 1) * 2 ^ (g + 1) := by rw [Nat.pow_succ, show 2 * k + 1 + 1 = 2 * (k + 1) by omega]; simp only [Nat.mul_comm, Nat.mul_assoc]
    rw [e1] at a
    rw [e2] at b
    rw [h.loc k (by have := h.n; have : q ≠ 0 := fun e => (by subst e; simp at hm; omega); omega) hkm (fun hh => by have := hh.zero; have : q ≠ 0 := fun e => (by subst e; simp at hm; omega); omega)]
    refine a.bet b ?_ ?_
    · rw [← e1, Nat.add_mul]; omega
    · rw [← e2, Nat.add_mul (2 * k + 1)]; omega
theorem getD_big {L : List Lf} {i : Nat} (h : L.length ≤ i) : L.getD i noLf = noLf := by
  simp [List.getD_eq_getElem?_getD, List.getElem?_eq_none h]
/-- The winner of all. -/
theorem WnX.win {L : List Lf} {s : Nat} {W : List Int} (h : WnX L (2 ^ s) W 0) : isW L 0 L.length (W.getD 1 (-1)) := by
  have h1 := h.seg s 1 (by simp) 1 (by omega) (by omega)
  rw [Nat.one_mul, Nat.sub_self, show (1 + 1) * 2 ^ s - 2 ^ s = 2 ^ s by omega] at h1
  have hn := h.n
  rcases h1 with ⟨ra, ha⟩ | ⟨j, ra, j1, j2, jb, ja⟩
  · exact .inl ⟨ra, fun i i1 i2 => ha i i1 (by omega)⟩
  · refine .inr ⟨j, ra, j1, ?_, jb, fun i i1 i2 => ja i i1 (by omega)⟩
    rcases Nat.lt_or_ge j L.length with hh | hh
    · exact hh
    · rw [getD_big hh] at jb; cases jb
/-- The winner, step by step. -/
theorem isW.nil (L : List Lf) : isW L 0 0 (-1) := .inl ⟨rfl, fun i _ hi => by omega⟩
theorem isW.snoc {L : List Lf} {i : Nat} {r : Int} (h : isW L 0 i r) : isW L 0 (i + 1) (if (L.getD i noLf).b && (decide (r < 0) || decide ((L.getD i noLf).k < keyT L r)) then (i : Int) else r) := by
  have h2 : isW L i (i + 1) (if (L.getD i noLf).b then (i : Int) else -1) := by
    cases hb : (L.getD i noLf).b with
    | true =>
      refine .inr ⟨i, by simp, Nat.le_refl _, by omega, hb, fun q i1 i2 _ => ?_⟩
      have : q = i := by omega
      subst this
      exact ⟨Int.le_refl _, fun hh => by omega⟩
    | false => exact .inl ⟨by simp, fun q i1 i2 => by rw [show q = i by omega]; exact hb⟩
  have h3 := h.bet h2 (Nat.zero_le _) (by omega)
  have e : (if (L.getD i noLf).b && (decide (r < 0) || decide ((L.getD i noLf).k < keyT L r)) then (i : Int) else r) = betT L r (if (L.getD i noLf).b then (i : Int) else -1) := by
    unfold betT
    cases hb : (L.getD i noLf).b with
    | false =>
      simp only [Bool.false_and, Bool.false_eq_true, if_false]
      split
      · assumption
      · simp
    | true =>
      simp only [Bool.true_and, if_true]
      by_cases hr : r < 0
      · have hr1 : r = -1 := by
          rcases h with ⟨ra, _⟩ | ⟨j, ra, _⟩
          · exact ra
          · omega
        simp [hr1]
      · have hr1 : ¬ r = -1 := by omega
        rw [if_neg hr1, if_neg (show ¬ (i : Int) = -1 by omega)]
        simp only [hr, decide_false, Bool.false_or, decide_eq_true_eq]
        rw [show keyT L (i : Int) = (L.getD i noLf).k by unfold keyT; rw [Int.toNat_natCast]]
        by_cases hk : (L.getD i noLf).k < keyT L r
        · rw [if_pos hk, if_neg (by omega)]
        · rw [if_neg hk, if_pos (by omega)]
  rw [e]; exact h3
/-- How many hold something. -/
def cntT (L : List Lf) : Nat := (L.filter (·.b)).length
/-- A leaf that holds nothing has no thing. -/
def Zs (L : List Lf) : Prop := ∀ i, (L.getD i noLf).b = false → L.getD i noLf = noLf
theorem Zs.set {L : List Lf} (h : Zs L) {i : Nat} {l : Lf} (hl : l.b = false → l = noLf) : Zs (L.set i l) := fun j hj => by
  by_cases e : i = j
  · subst e
    rcases Nat.lt_or_ge i L.length with hlt | hge
    · rw [getL_set_self hlt] at hj ⊢; exact hl hj
    · rw [List.set_eq_of_length_le hge] at hj ⊢; exact h i hj
  · rw [getL_set_ne e] at hj ⊢; exact h j hj
theorem Zs.rep (n : Nat) : Zs (List.replicate n noLf) := fun i _ => by
  simp only [List.getD_eq_getElem?_getD, List.getElem?_replicate]
  split <;> rfl
theorem WnX.new (n : Nat) {s : Nat} (h1 : 1 ≤ n) (h2 : n ≤ 2 ^ s) : WnX (List.replicate n noLf) (2 ^ s) (List.replicate (2 * 2 ^ s) (-1)) 0 := by
  have g : ∀ j, (List.replicate (2 * 2 ^ s) (-1 : Int)).getD j (-1) = -1 := fun j => by
    simp only [List.getD_eq_getElem?_getD, List.getElem?_replicate]
    split <;> rfl
  have gl : ∀ j, (List.replicate n noLf).getD j noLf = noLf := fun j => by
    simp only [List.getD_eq_getElem?_getD, List.getElem?_replicate]
    split <;> rfl
  refine ⟨by simp, by simpa using ⟨h1, h2⟩, fun i _ => ?_, fun j _ _ => .inl (g j), fun j _ _ _ => ?_⟩
  · rw [g, gl]; rfl
  · rw [g, g, g]; simp [betT]
end Go.Proofs.Ytjcinhlghlcknaa
