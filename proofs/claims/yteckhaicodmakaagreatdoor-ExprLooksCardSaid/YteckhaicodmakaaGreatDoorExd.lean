/-
  The contracts of the document's own Digits and Show.
-/
import Derived.Test.YteckhaicodmakaaGreatDoorExv
namespace Go.Proofs.YteckhaicodmakaaGreatDoor
open Go.RowKit Go.Shelf

abbrev tens : ByteArray := ⟨#[48, 49, 50, 51, 52, 53, 54, 55, 56, 57]⟩
theorem tens_at (d : Nat) (hd : d < 10) (acc : List UInt8) : tens.extract d (d + 1) ++ bstr acc = bstr (UInt8.ofNat (48 + d) :: acc) := by
  have h : ∀ d : Fin 10, tens.extract d.1 (d.1 + 1) = bstr [UInt8.ofNat (48 + d.1)] := by decide +kernel
  have := h ⟨d, hd⟩
  simp only at this
  rw [this]
  apply ByteArray.ext
  simp [bstr]
theorem dec_small {u : Nat} (h : u < 10) : Lib.decDigits u = [UInt8.ofNat (48 + u)] := by rw [Lib.decDigits, dif_pos h]
theorem dec_big {u : Nat} (h : ¬ u < 10) : Lib.decDigits u = Lib.decDigits (u / 10) ++ [UInt8.ofNat (48 + u % 10)] := by rw [Lib.decDigits, dif_neg h]
theorem dec_len : ∀ u : Nat, (Lib.decDigits u).length ≤ u + 1 := by
  intro u
  induction u using Nat.strongRecOn with
  | _ u ih =>
    by_cases h : u < 10
    · rw [dec_small h]; simp
    · rw [dec_big h]
      have := ih (u / 10) (by omega)
      simp; omega

/-- What is left, and what has been told, of a number's digits. -/
def DigAt (N m : Nat) (acc : List UInt8) : Prop := (m = N ∧ acc = []) ∨ (acc ≠ [] ∧ (if m = 0 then [] else Lib.decDigits m) ++ acc = Lib.decDigits N)
theorem dig_next {N m : Nat} {acc : List UInt8} (h : DigAt N m acc) (hgo : 0 < m ∨ acc = []) : DigAt N (m / 10) (UInt8.ofNat (48 + m % 10) :: acc) := by
  refine .inr ⟨by simp, ?_⟩
  have e : (if m / 10 = 0 then [] else Lib.decDigits (m / 10)) ++ [UInt8.ofNat (48 + m % 10)] = Lib.decDigits m := by
    by_cases hm : m < 10
    · rw [dec_small hm, if_pos (by omega), Nat.mod_eq_of_lt hm]; rfl
    · rw [dec_big hm, if_neg (by omega)]
  rw [← List.singleton_append, ← List.append_assoc, e]
  rcases h with ⟨rfl, rfl⟩ | ⟨ha, he⟩
  · simp
  · have hm : m ≠ 0 := by rcases hgo with h | h; omega; exact absurd h ha
    rw [if_neg hm] at he
    exact he
theorem dig_end {N : Nat} {acc : List UInt8} (h : DigAt N 0 acc) (ha : acc ≠ []) : acc = Lib.decDigits N := by
  rcases h with ⟨_, h⟩ | ⟨_, h⟩
  · exact absurd h ha
  · simpa using h
theorem dig_len {N m : Nat} {acc : List UInt8} (h : DigAt N m acc) : acc.length ≤ N + 1 := by
  rcases h with ⟨_, rfl⟩ | ⟨_, h⟩
  · simp
  · have h1 := congrArg List.length h
    have h2 := dec_len N
    rw [List.length_append] at h1
    omega
theorem bstr_size (l : List UInt8) : (bstr l).size = l.length := by
  show l.toArray.size = _
  simp
/-- How far the loop has to go. -/
def digLeft (n s : Value) : Nat := (intOf n).toNat + (match s with | .string b => (if b.size = 0 then 1 else 0) | _ => 0)
theorem digLeft_at (m : Nat) (acc : List UInt8) : digLeft (.int .i64 m) (.string (bstr acc)) = m + (if acc.length = 0 then 1 else 0) := by
  simp [digLeft, intOf, bstr_size]
theorem bstr_list (l : List UInt8) : (bstr l).toList = l := by rw [ByteArray.toList_eq]; simp [bstr]

set_option maxHeartbeats 1000000 in
theorem digits_pos (N : Nat) (w : World) (hN : N ≤ 9007199254740991) :
    Calls Tryz.prog 62 #[.int .i64 N] w fun e w' => e = .returned (.string (bstr (Lib.decDigits N))) ∧ w = w' := by
  go_enter Tryz.func62, Tryz.ntmps62
  go_wp2_with fail
  go_loop [0, 3] (fun n s => ∃ (m : Nat) (acc : List UInt8), m ≤ N ∧ n = .int .i64 m ∧ s = .string (bstr acc) ∧ Hid (DigAt N m acc)) (fun n s => digLeft n s)
  case atStart => exact ⟨N, [], Nat.le_refl _, rfl, rfl, Lib.hid (.inl ⟨rfl, rfl⟩)⟩
  case round =>
    obtain ⟨m, acc, hm, rfl, rfl, HD⟩ := hrel
    have hl := dig_len HD.out
    have hsz : (bstr acc).size = acc.length := bstr_size acc
    rcases Nat.eq_zero_or_pos m with h0 | h0
    · subst h0
      rcases List.eq_nil_or_concat acc with ha | ⟨_, _, ha⟩
      · subst ha
        have HN := Lib.hid (dig_next HD.out (.inr rfl))
        have hE : (bstr []).toList.isEmpty = true := by rw [bstr_list]; rfl
        clear hl hsz
        go_wp2_with fail
        go_round
        case rel => exact ⟨0, [48], Nat.zero_le _, rfl, congrArg Value.string (tens_at 0 (by omega) []), Lib.hid HN.out⟩
        case measure => exact (by decide : digLeft (.int .i64 0) (.string (bstr [48])) < digLeft (.int .i64 0) (.string (bstr [])))
      · have hne : acc ≠ [] := by subst ha; simp
        have HE := Lib.hid (dig_end HD.out hne)
        have hE : (bstr acc).toList.isEmpty = false := by rw [bstr_list]; simpa using hne
        clear hl hsz ha hne
        go_wp2_with fail
        go_ret
        exact ⟨ret_str (by rw [HE.out]), rfl⟩
    · have HN := Lib.hid (dig_next HD.out (.inl h0))
      have HT := Lib.hid (tens_at (m % 10) (by omega) acc)
      go_wp2_with fail
      go_round
      case rel => exact ⟨m / 10, UInt8.ofNat (48 + m % 10) :: acc, by omega, by go_num, congrArg Value.string HT.out, HN⟩
      case measure =>
        have e1 := digLeft_at (m / 10) (UInt8.ofNat (48 + m % 10) :: acc)
        have e2 := digLeft_at m acc
        rw [← HT.out] at e1
        have e3 : ((m / 10 : Nat) : Int) = (m : Int) / 10 := by omega
        rw [e3] at e1
        show digLeft _ _ < digLeft _ _
        rw [e1, e2]
        simp
        omega

set_option maxHeartbeats 1000000 in
theorem digits_any (n : Int) (w : World) (h0 : -9007199254740991 ≤ n) (h1 : n ≤ 9007199254740991) :
    Calls Tryz.prog 62 #[.int .i64 n] w fun e w' => e = .returned (.string (bstr (Lib.itoa n))) ∧ w = w' := by
  by_cases hn : 0 ≤ n
  · obtain ⟨N, rfl⟩ := Int.eq_ofNat_of_zero_le hn
    rw [show Lib.itoa (N : Int) = Lib.decDigits N by unfold Lib.itoa; rw [if_neg (by omega)]; rfl]
    exact digits_pos N w (by omega)
  · have HF := Lib.hid (show Lib.itoa n = 45 :: Lib.decDigits n.natAbs by unfold Lib.itoa; rw [if_pos (by omega)])
    have hl := dec_len n.natAbs
    have hD := digits_pos n.natAbs
    have HD := Lib.hid hD
    have hna : ((n.natAbs : Nat) : Int) = - n := by omega
    have HA := Lib.hid hna
    have hnl : n < 0 := by omega
    clear hD hna
    go_enter Tryz.func62, Tryz.ntmps62
    go_wp2_with fail
    rw [← HA.out]
    refine (HD.out _ (by omega)).mono ?_
    generalize Lib.decDigits n.natAbs = D at hl HF ⊢
    have hs : (bstr D).size = D.length := bstr_size D
    rintro e w1 ⟨rfl, rfl⟩
    go_wp2_with fail
    go_ret
    exact ⟨ret_str (by rw [HF.out]; apply ByteArray.ext; simp [bstr]), rfl⟩

theorem dbl_snoc (l : List UInt8) (c : UInt8) : dbl (l ++ [c]) = dbl l ++ (if c = 39 then [39, 39] else [c]) := by
  simp [dbl]
theorem take_snoc (s : ByteArray) (k : Nat) (h : k < s.size) : s.data.toList.take (k + 1) = s.data.toList.take k ++ [s[k]] := by
  rw [List.take_succ_eq_append_getElem (by simpa using h)]; rfl
/-- The text so far: a quote, and the first k letters, each quote of them doubled. -/
def shownTo (s : ByteArray) (k : Nat) : List UInt8 := 39 :: dbl (s.data.toList.take k)
theorem shown_len (s : ByteArray) (k : Nat) : (shownTo s k).length ≤ 2 * k + 1 := by
  have h := dbl_le (s.data.toList.take k)
  have : (s.data.toList.take k).length ≤ k := List.length_take_le _ _
  unfold shownTo
  simp
  omega
theorem one_of (s : ByteArray) (k : Nat) (h : k < s.size) : s.extract k (k + 1) = bstr [s[k]] := by
  apply ByteArray.ext
  rw [ByteArray.data_extract]
  apply Array.ext'
  rw [Array.toList_extract]
  have hk : k < s.data.toList.length := by simpa using h
  simp only [bstr, List.extract_eq_take_drop, Nat.add_sub_cancel_left]
  rw [List.drop_eq_getElem_cons hk]
  rfl
theorem shown_one (s : ByteArray) (k : Nat) (h : k < s.size) : bstr (shownTo s k) ++ s.extract k (k + 1) = bstr (shownTo s k ++ [s[k]]) := by
  rw [one_of s k h]
  apply ByteArray.ext
  simp [bstr]
theorem shown_q (l : List UInt8) : bstr l ++ qt = bstr (l ++ [39]) := by
  apply ByteArray.ext
  simp [bstr]

theorem shown_next_q (s : ByteArray) (k : Nat) (h : k < s.size) (hc : ((s[k].toNat : Int) == 39) = true) : bstr (shownTo s k) ++ s.extract k (k + 1) ++ qt = bstr (shownTo s (k + 1)) := by
  have e : s[k] = 39 := by
    apply UInt8.toNat_inj.1
    have : (s[k].toNat : Int) = 39 := by simpa using hc
    show s[k].toNat = 39
    omega
  rw [shown_one s k h, shown_q]
  congr 1
  unfold shownTo
  rw [take_snoc s k h, dbl_snoc, e, if_pos rfl]
  simp
theorem shown_next (s : ByteArray) (k : Nat) (h : k < s.size) (hc : ((s[k].toNat : Int) == 39) = false) : bstr (shownTo s k) ++ s.extract k (k + 1) = bstr (shownTo s (k + 1)) := by
  have e : ¬ s[k] = 39 := by
    intro he
    rw [he] at hc
    exact absurd hc (by decide)
  rw [shown_one s k h]
  congr 1
  unfold shownTo
  rw [take_snoc s k h, dbl_snoc, if_neg e]
  simp

set_option maxHeartbeats 1000000 in
theorem refShow_any (k n : Int) (s : ByteArray) (w : World) (hs : s.size ≤ 9223372036854775807) :
    Calls Tryz.prog 43 #[VV k n s] w fun e w' => e = .returned (.string (bstr (showL k n s))) ∧ Below w.heap.size w w' := by
  cases hok : okV k n s
  · have HF := Lib.hid (show showL k n s = [63] by simp [showL, hok])
    have HK := Lib.hid hok
    clear hok
    go_enter Tryz.func43, Tryz.ntmps43
    go_wp2_with fail
    refine (refCheck_no _ _ _ _ hs HK.out).mono ?_
    rintro e w1 ⟨rfl, hb1⟩
    go_wp2_with fail
    go_ret
    exact ⟨ret_str (by rw [HF.out]; rfl), bt (ba _ _) hb1⟩
  · have HK := Lib.hid hok
    by_cases h1 : k = 1
    · subst h1
      have h01 : n = 0 ∨ n = 1 := by simp [okV] at hok; exact hok.1
      rcases h01 with h | h
      · subst h
        have HF := Lib.hid (show showL 1 0 s = [70, 65, 76, 83, 69] by simp [showL, hok])
        clear hok
        go_enter Tryz.func43, Tryz.ntmps43
        go_wp2_with fail
        refine (refCheck_yes _ _ _ _ hs HK.out).mono ?_
        rintro e w1 ⟨rfl, hb1⟩
        obtain ⟨c0, c1, c2⟩ := box1 hb1
        go_wp2_with fail
        go_ret
        exact ⟨ret_str (by rw [HF.out]; rfl), bt (ba _ _) hb1⟩
      · subst h
        have HF := Lib.hid (show showL 1 1 s = [84, 82, 85, 69] by simp [showL, hok])
        clear hok
        go_enter Tryz.func43, Tryz.ntmps43
        go_wp2_with fail
        refine (refCheck_yes _ _ _ _ hs HK.out).mono ?_
        rintro e w1 ⟨rfl, hb1⟩
        obtain ⟨c0, c1, c2⟩ := box1 hb1
        go_wp2_with fail
        go_ret
        exact ⟨ret_str (by rw [HF.out]; rfl), bt (ba _ _) hb1⟩
    · by_cases h2 : k = 2
      · subst h2
        have hb : -9007199254740991 ≤ n ∧ n ≤ 9007199254740991 := by simp [okV] at hok; exact hok.1
        have HF := Lib.hid (show showL 2 n s = Lib.itoa n by simp [showL, hok])
        clear hok h1
        go_enter Tryz.func43, Tryz.ntmps43
        go_wp2_with fail
        refine (refCheck_yes _ _ _ _ hs HK.out).mono ?_
        rintro e w1 ⟨rfl, hb1⟩
        obtain ⟨c0, c1, c2⟩ := box1 hb1
        have hB1 := bt (ba _ _) hb1
        go_wp2_with fail
        refine (digits_any _ _ hb.1 hb.2).mono ?_
        rintro e w2 ⟨rfl, rfl⟩
        go_wp2_with fail
        go_ret
        exact ⟨ret_str (by rw [HF.out]), hB1⟩
      · by_cases h3 : k = 3
        · subst h3
          have h0 : n = 0 ∧ s.size ≤ 64 := by simp [okV] at hok; exact hok
          obtain ⟨rfl, h64⟩ := h0
          have HF := Lib.hid (show showL 3 0 s = shownTo s s.size ++ [39] by
            have e : s.data.toList.take s.size = s.data.toList := List.take_of_length_le (by simp)
            simp [showL, hok, shownTo, e])
          clear hok h1 h2
          go_enter Tryz.func43, Tryz.ntmps43
          go_wp2_with fail
          refine (refCheck_yes _ _ _ _ hs HK.out).mono ?_
          rintro e w1 ⟨rfl, hb1⟩
          obtain ⟨c0, c1, c2⟩ := box1 hb1
          have hB1 := bt (ba _ _) hb1
          go_wp2_with fail
          go_loop [3, 4] (fun t i => ∃ j : Nat, j ≤ s.size ∧ i = .int .i64 j ∧ t = .string (bstr (shownTo s j))) (fun _ i => s.size - (intOf i).toNat)
          case atStart => exact ⟨0, Nat.zero_le _, rfl, rfl⟩
          case round =>
            obtain ⟨j, hj, rfl, rfl⟩ := hrel
            have hl := shown_len s j
            have hz : (bstr (shownTo s j)).size = (shownTo s j).length := bstr_size _
            by_cases hlt : j < s.size
            · go_wp2_with fail
              · have hc : ((s[j].toNat : Int) == 39) = true := by assumption
                go_round
                case rel => exact ⟨j + 1, by omega, by go_num, congrArg Value.string (shown_next_q s j hlt hc)⟩
                case measure => simp [intOf]; omega
              · have hc : ((s[j].toNat : Int) == 39) = false := by assumption
                go_round
                case rel => exact ⟨j + 1, by omega, by go_num, congrArg Value.string (shown_next s j hlt hc)⟩
                case measure => simp [intOf]; omega
            · obtain rfl : j = s.size := by omega
              go_wp2_with fail
              go_ret
              exact ⟨ret_str (by rw [HF.out]; exact shown_q _), hB1⟩
        · have h0 : k = 0 := by
            by_cases h0 : k = 0
            · exact h0
            · simp [okV, h0, h1, h2, h3] at hok
          subst h0
          have HF := Lib.hid (show showL 0 n s = [78, 85, 76, 76] by simp [showL, hok])
          clear hok h1 h2 h3
          go_enter Tryz.func43, Tryz.ntmps43
          go_wp2_with fail
          refine (refCheck_yes _ _ _ _ hs HK.out).mono ?_
          rintro e w1 ⟨rfl, hb1⟩
          obtain ⟨c0, c1, c2⟩ := box1 hb1
          go_wp2_with fail
          go_ret
          exact ⟨ret_str (by rw [HF.out]; rfl), bt (ba _ _) hb1⟩

end Go.Proofs.YteckhaicodmakaaGreatDoor
