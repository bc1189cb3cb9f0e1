/-
  Plain: what is put is got, whatever follows.
-/
import Derived.Test.YtdjhoiamongdaaaRPut2
import Derived.Test.YtdjhoiamongdaaaRGet
namespace Go.Proofs.Ytdjhoiamongdaaa
open Go.RowKit

theorem seven_byte (m : Int) : ∀ x ∈ seven m, 0 ≤ x ∧ x < 256 := by
  intro x hx
  simp [seven, byteAt] at hx
  omega
theorem num_seven (m : Int) (h0 : 0 ≤ m) (h1 : m < 72057594037927936) : num (seven m) = m := by
  simp [num, seven, byteAt]
  omega
theorem strOfNums_strB (s : ByteArray) : strOfNums (strB s) = s := by
  apply ByteArray.ext
  apply Array.toList_inj.1
  rw [strOfNums_data]
  unfold strB
  rw [List.map_map]
  conv => rhs; rw [← List.map_id s.data.toList]
  apply List.map_congr_left
  intro b _
  simp
theorem strB_byte (s : ByteArray) : ∀ x ∈ strB s, 0 ≤ x ∧ x < 256 := by
  intro x hx
  simp only [strB, List.mem_map] at hx
  obtain ⟨b, _, rfl⟩ := hx
  have := b.toNat_lt
  omega

theorem ok_parts {k n : Int} {s : ByteArray} (h : (⟨k, n, s⟩ : Va).ok = true) : (k = 0 ∧ n = 0 ∧ s = ⟨#[]⟩) ∨ (k = 1 ∧ (n = 0 ∨ n = 1) ∧ s = ⟨#[]⟩) ∨ (k = 2 ∧ -9007199254740991 ≤ n ∧ n ≤ 9007199254740991 ∧ s = ⟨#[]⟩) ∨ (k = 3 ∧ n = 0 ∧ s.size ≤ 64) := by
  have hk := ok_kind h
  have ht := ok_text h
  have e : ∀ t : ByteArray, t.toList = [] → t = ⟨#[]⟩ := by
    intro t ht
    rw [ByteArray.toList_eq] at ht
    exact ByteArray.ext (Array.toList_inj.1 ht)
  simp only at hk ht
  unfold Va.ok okV at h
  rcases hk with rfl | rfl | rfl | rfl
  · simp at h; exact .inl ⟨rfl, by omega, e _ h.2⟩
  · simp at h; exact .inr (.inl ⟨rfl, by omega, e _ h.2⟩)
  · simp at h; exact .inr (.inr (.inl ⟨rfl, by omega, by omega, e _ h.2⟩))
  · simp at h; exact .inr (.inr (.inr ⟨rfl, by omega, ht⟩))

theorem getV_putV (v : Va) (h : v.ok = true) (t : List Int) : getV (putV v ++ t) = some (v, sizeV v) := by
  obtain ⟨k, n, s⟩ := v
  rw [sizeV_eq]
  rcases ok_parts h with ⟨rfl, rfl, rfl⟩ | ⟨rfl, hn, rfl⟩ | ⟨rfl, h1, h2, rfl⟩ | ⟨rfl, rfl, hs⟩
  · simp [putV, getV, nullA]
  · simp [putV, getV, keepOk, h]
  · have e := num_seven (n + 9007199254740992) (by omega) (by omega)
    have hl : (seven (n + 9007199254740992)).length = 7 := rfl
    have et : (seven (n + 9007199254740992) ++ t).take 7 = seven (n + 9007199254740992) := by
      rw [List.take_append_of_le_length (by omega), List.take_of_length_le (by omega)]
    simp only [putV, show ¬ ((2 : Int) = 1) by decide, if_false, if_true, List.cons_append, getV, show ¬ ((2 : Int) = 0) by decide, show ¬ (seven (n + 9007199254740992) ++ t).length < 7 by simp [hl], et, e]
    rw [show n + 9007199254740992 - 9007199254740992 = n by omega]
    simp [keepOk, h]
  · have hl : (strB s).length = s.size := by simp [strB]
    have et : (strB s ++ t).take s.size = strB s := by
      rw [List.take_append_of_le_length (by omega), List.take_of_length_le (by omega)]
    simp only [putV, show ¬ ((3 : Int) = 1) by decide, show ¬ ((3 : Int) = 2) by decide, if_false, if_true, List.cons_append, getV, show ¬ ((3 : Int) = 0) by decide, Int.toNat_natCast, show ¬ (strB s ++ t).length < s.size by simp [hl], et, strOfNums_strB]
    simp [keepOk, h]

theorem size_putV' (v : Va) : (putV v).length = sizeV v := rfl
theorem getR_bodyR : ∀ (r : List Va), (∀ v ∈ r, v.ok = true) → ∀ t, getR r.length (bodyR r ++ t) = some (r, sumV r)
  | [], _, t => rfl
  | v :: r, h, t => by
    have h1 := getV_putV v (h v (by simp)) (bodyR r ++ t)
    have h2 := getR_bodyR r (fun u hu => h u (by simp [hu])) t
    have e : bodyR (v :: r) ++ t = putV v ++ (bodyR r ++ t) := by simp [bodyR]
    have ed : (putV v ++ (bodyR r ++ t)).drop (sizeV v) = bodyR r ++ t := by
      rw [← size_putV', List.drop_append_of_le_length (Nat.le_refl _), List.drop_eq_nil_of_le (Nat.le_refl _)]; rfl
    rw [e, List.length_cons, getR, h1]
    simp only
    rw [ed, h2]
    rfl
theorem getRow_putR (r : List Va) (h : okR r = true) (t : List Int) : getRow (putR r ++ t) = some (r, 1 + sumV r) := by
  obtain ⟨h32, hall⟩ := okR_parts h
  simp only [putR, List.cons_append, getRow, show ¬ (32 : Int) < r.length by omega, if_false, Int.toNat_natCast]
  rw [getR_bodyR r hall t]
theorem putV_byte (v : Va) (h : v.ok = true) : ∀ x ∈ putV v, 0 ≤ x ∧ x < 256 := by
  obtain ⟨k, n, s⟩ := v
  rcases ok_parts h with ⟨rfl, rfl, rfl⟩ | ⟨rfl, hn, rfl⟩ | ⟨rfl, h1, h2, rfl⟩ | ⟨rfl, rfl, hs⟩
  · simp [putV]
  · intro x hx; simp [putV] at hx; omega
  · intro x hx
    simp only [putV, show ¬ ((2 : Int) = 1) by decide, if_false, if_true, List.mem_cons] at hx
    rcases hx with rfl | hx
    · omega
    · exact seven_byte _ x hx
  · intro x hx
    simp only [putV, show ¬ ((3 : Int) = 1) by decide, show ¬ ((3 : Int) = 2) by decide, if_false, if_true, List.mem_cons] at hx
    rcases hx with rfl | rfl | hx
    · omega
    · omega
    · exact strB_byte s x hx
theorem putR_byte (r : List Va) (h : okR r = true) : ∀ x ∈ putR r, 0 ≤ x ∧ x < 256 := by
  obtain ⟨h32, hall⟩ := okR_parts h
  intro x hx
  simp only [putR, bodyR, List.mem_cons, List.mem_flatMap] at hx
  rcases hx with rfl | ⟨v, hv, hx⟩
  · omega
  · exact putV_byte v (hall v hv) x hx
theorem putR_length (r : List Va) : (putR r).length = 1 + sumV r := by simp [putR, bodyR_length]; omega

end Go.Proofs.Ytdjhoiamongdaaa
