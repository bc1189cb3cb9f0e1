/-
  The document's Name.
  The document's one: may an expression be, but for its parts?
  The document's one, at 1.
  The document's one, at 2.
  The document's one, at 3.
  The document's one, at 4.
-/
import Derived.Test.YteckhaicodmakaaGreatDoorExn
import Derived.Test.YteckhaicodmakaaGreatDoorEx2
import Derived.Test.YteckhaicodmakaaGreatDoorExp
import Derived.Deep.QuietTactic
import Derived.BigQuiet
namespace Go.Proofs.YteckhaicodmakaaGreatDoor
section
open Go.RowKit Go.Shelf

/-- A name, byte by byte. -/
def nameL (l : Lx.B) : Bool := decide (1 ≤ l.length) && decide (l.length ≤ 24) && !((l.head?.map Lx.digit).getD false) && !Lx.key l && l.all Lx.wordy
theorem take_all (l : Lx.B) : (l.takeWhile Lx.wordy).length = l.length ↔ l.all Lx.wordy = true := by
  induction l with
  | nil => simp
  | cons c l ih =>
    cases hc : Lx.wordy c with
    | true => simp [hc, ih]
    | false => simp [hc]
theorem take_eq {l : Lx.B} (h : l.all Lx.wordy = true) : l.takeWhile Lx.wordy = l := by
  have := Lx.takeWhile_take Lx.wordy l
  rw [(take_all l).2 h, List.take_length] at this
  exact this.symm
theorem isName_eq (s : ByteArray) : isName s = nameL (bs s) := by
  have hl : (bs s).length = s.size := by simp
  unfold isName
  cases hb : bs s with
  | nil => simp [Lx.cut, nameL]
  | cons c r =>
    rw [hb] at hl
    rw [Lx.cut]
    by_cases h1 : Lx.letter c = true
    · have hd : Lx.digit c = false := by
        cases h : Lx.digit c with
        | false => rfl
        | true => rw [Lx.digit_letter h] at h1; cases h1
      rw [if_pos h1, Lx.cutWord]
      cases ha : (c :: r).all Lx.wordy with
      | true =>
        rw [take_eq ha]
        unfold nameL
        rw [ha]
        by_cases h24 : 24 < (c :: r).length
        · rw [if_pos h24]
          have : decide ((c :: r).length ≤ 24) = false := decide_eq_false (by omega)
          rw [this, Bool.and_false]; rfl
        · rw [if_neg h24]
          have h25 : decide ((c :: r).length ≤ 24) = true := decide_eq_true (by omega)
          have h26 : decide (1 ≤ (c :: r).length) = true := by simp
          rw [h25, h26]
          cases hk : Lx.key (c :: r) with
          | true => simp
          | false => simp [hd, ← hl]
      | false =>
        have hne : ¬ ((c :: r).takeWhile Lx.wordy).length = s.size := fun e => by
          have := (take_all (c :: r)).1 (by rw [e, hl])
          rw [ha] at this; cases this
        unfold nameL
        rw [ha, Bool.and_false]
        split
        · rename_i t z e
          split at e
          · cases e
          · simp only [Option.some.injEq, Prod.mk.injEq] at e
            rw [← e.2]
            simp only [hne, decide_false, Bool.and_false]
        · rfl
    · rw [if_neg h1]
      by_cases h2 : Lx.digit c = true
      · rw [if_pos h2, Lx.cutNum]
        have : nameL (c :: r) = false := by simp [nameL, h2]
        rw [this]
        split
        · rename_i t z e
          split at e
          · cases e
          · split at e
            · cases e
            · simp only [Option.some.injEq, Prod.mk.injEq] at e
              rw [← e.1]; rfl
        · rfl
      · rw [if_neg h2]
        have hw : Lx.wordy c = false := by simp [Lx.wordy, h1, h2]
        have : nameL (c :: r) = false := by simp [nameL, hw]
        rw [this]
        split
        · rename_i t z e
          split at e
          · rw [Lx.cutText] at e
            simp only [Option.map_eq_some_iff] at e
            obtain ⟨_, _, e⟩ := e
            simp only [Prod.mk.injEq] at e
            rw [← e.1]; rfl
          · rw [Lx.cutSign] at e
            simp only [Option.map_eq_some_iff] at e
            obtain ⟨_, _, e⟩ := e
            simp only [Prod.mk.injEq] at e
            rw [← e.1]; rfl
        · rfl
theorem refLetter_any (c : UInt8) (w : World) :
    Calls Tryz.prog 76 #[.int .u8 c.toNat] w fun e w' => e = .returned (.bool (Lx.letter c)) ∧ w' = w := by
  have hc : ∀ n : Nat, (c = UInt8.ofNat n) → n < 256 → (c.toNat = n) := by rintro n rfl h; simp; omega
  have hl : Lx.letter c = decide (c.toNat = 95 ∨ (97 ≤ c.toNat ∧ c.toNat ≤ 122) ∨ (65 ≤ c.toNat ∧ c.toNat ≤ 90)) := by
    unfold Lx.letter
    congr 1
    rw [← UInt8.toNat_inj]; rfl
  rw [hl]
  generalize c.toNat = m
  clear hc hl
  go_enter Tryz.func76, Tryz.ntmps76
  go_wp2
  all_goals
    go_ret
    exact ⟨ret_bool (by first | rfl | (rw [Bool.eq_iff_iff]; simp; done) | (rw [Bool.eq_iff_iff]; simp; omega)), rfl⟩
theorem refDigit_any (c : UInt8) (w : World) :
    Calls Tryz.prog 74 #[.int .u8 c.toNat] w fun e w' => e = .returned (.bool (Lx.digit c)) ∧ w' = w := by
  unfold Lx.digit
  generalize c.toNat = m
  go_enter Tryz.func74, Tryz.ntmps74
  go_wp2
  all_goals
    go_ret
    exact ⟨ret_bool (by first | rfl | (rw [Bool.eq_iff_iff]; simp; done) | (rw [Bool.eq_iff_iff]; simp; omega)), rfl⟩
/-- The words, as the document's Keys lays them. -/
def keyCells : Array Value := (Lx.keys.map fun b => Value.string ⟨b.toArray⟩).toArray
theorem refKeys_any (w : World) :
    Calls Tryz.prog 81 #[] w fun e w' => e = .returned (.slice (some ⟨w.heap.size, 0, none⟩) 28 28) ∧ w' = w.alloc (.cells keyCells 9) := by
  go_enter Tryz.func81, Tryz.ntmps81
  go_wp2
  go_ret
  exact ⟨rfl, congrArg (fun c => w.alloc (.cells c 9)) (by kernel_rfl)⟩
theorem keyCells_at (w : World) {j : Nat} {b : Lx.B} (h : Lx.keys[j]? = some b) : (w.alloc (.cells keyCells 9)).cell? ⟨w.heap.size, j, none⟩ = some (.string ⟨b.toArray⟩) := by
  have hn := (MapKept.heap_alloc w (.cells keyCells 9)).1
  unfold World.cell?
  rw [hn]
  simp [keyCells, h]
set_option maxHeartbeats 1000000 in
theorem refKey_any (s : ByteArray) (w : World) :
    Calls Tryz.prog 75 #[.string s] w fun e w' => e = .returned (.bool (Lx.key (bs s))) ∧ Below w.heap.size w w' := by
  go_enter Tryz.func75, Tryz.ntmps75
  go_wp2_with fail
  refine (refKeys_any _).mono ?_
  rintro e w1 ⟨rfl, hw1⟩
  have HK := Lib.hid (fun j b (h : Lx.keys[j]? = some b) => (by rw [hw1]; exact keyCells_at w h : w1.cell? ⟨w.heap.size, j, none⟩ = some (.string ⟨b.toArray⟩)))
  have HB := Lib.hid (by rw [hw1]; exact ba w _ : Below w.heap.size w w1)
  have hsz : w1.heap.size = w.heap.size + 1 := by rw [hw1, World.size_alloc]
  clear hw1
  go_wp2_with fail
  go_loop [4] (fun i => ∃ k : Nat, k ≤ 28 ∧ i = .int .i64 k ∧ Hid (∀ j b, j < k → Lx.keys[j]? = some b → b ≠ bs s)) (fun i => 28 - (intOf i).toNat)
  case atStart => exact ⟨0, Nat.zero_le _, rfl, Lib.hid (fun j c h => absurd h (by omega))⟩
  case round =>
    obtain ⟨k, hk, rfl, HA⟩ := hrel
    by_cases hlt : k < 28
    · obtain ⟨b, hb⟩ : ∃ b, Lx.keys[k]? = some b := ⟨_, List.getElem?_eq_getElem (by rw [keys_len]; exact hlt)⟩
      have hc := HK.out k b hb
      have HBb := Lib.hid hb
      have hq : ((⟨b.toArray⟩ : ByteArray).toList == s.toList) = (b == bs s) := tl_bs _ _
      clear hb
      generalize (⟨b.toArray⟩ : ByteArray) = kb at hc hq
      cases he : b == bs s
      · rw [he] at hq
        go_wp2_with fail
        go_round
        case rel =>
          refine ⟨k + 1, by omega, by go_num, Lib.hid (fun j x hj hx => ?_)⟩
          rcases Nat.lt_or_ge j k with h | h
          · exact HA.out j x h hx
          · obtain rfl : j = k := by omega
            rw [HBb.out] at hx; obtain rfl := Option.some.inj hx; simpa using he
        case measure => simp [intOf]; omega
      · rw [he] at hq
        go_wp2_with fail
        go_ret
        refine ⟨ret_b ?_, HB.out⟩
        obtain rfl : b = bs s := by simpa using he
        symm; rw [Lx.key, List.contains_iff_mem]
        exact List.mem_of_getElem? HBb.out
    · go_wp2_with fail
      go_ret
      refine ⟨ret_b ?_, HB.out⟩
      symm; rw [Lx.key, Bool.eq_false_iff]
      intro h
      rw [List.contains_iff_mem] at h
      obtain ⟨j, hj⟩ := List.getElem?_of_mem h
      have : j < 28 := by have := (List.getElem?_eq_some_iff.1 hj).1; rw [keys_len] at this; exact this
      exact HA.out j _ (by omega) hj rfl
theorem all_take {l : Lx.B} {k : Nat} (h : ∀ j c, j < k → l[j]? = some c → Lx.wordy c = true) (hk : l.length ≤ k) : l.all Lx.wordy = true := by
  rw [List.all_eq_true]
  intro c hc
  obtain ⟨j, hj⟩ := List.getElem?_of_mem hc
  exact h j c (by have := (List.getElem?_eq_some_iff.1 hj).1; omega) hj
set_option maxHeartbeats 2000000 in
theorem refName_any (s : ByteArray) (w : World) (hs : s.size ≤ 9223372036854775807) :
    Calls Tryz.prog 66 #[.string s] w fun e w' => e = .returned (.bool (isName s)) ∧ Below w.heap.size w w' := by
  rw [isName_eq]
  have hL : (bs s).length = s.size := bs_len s
  by_cases z1 : s.size < 1
  · have y1 : (s.size : Int) < 1 := by omega
    have HN := Lib.hid (show nameL (bs s) = false by unfold nameL; rw [decide_eq_false (by omega)]; simp)
    go_enter Tryz.func66, Tryz.ntmps66
    go_wp2_with fail
    go_ret
    exact ⟨ret_b HN.out.symm, Below.refl _ _⟩
  · have y1 : ¬ (s.size : Int) < 1 := by omega
    by_cases z2 : 24 < s.size
    · have y2 : (24 : Int) < (s.size : Int) := by omega
      have HN := Lib.hid (show nameL (bs s) = false by unfold nameL; rw [decide_eq_false (p := (bs s).length ≤ 24) (by omega)]; simp)
      go_enter Tryz.func66, Tryz.ntmps66
      go_wp2_with fail
      go_ret
      exact ⟨ret_b HN.out.symm, Below.refl _ _⟩
    · have y2 : ¬ (24 : Int) < (s.size : Int) := by omega
      have h0 := bs_get s 0 (by omega)
      have hh : (bs s).head? = some s[0] := by rw [← List.head?_eq_getElem?] at h0; exact h0
      have HN := Lib.hid (show nameL (bs s) = (!Lx.digit s[0] && !Lx.key (bs s) && (bs s).all Lx.wordy) by
        unfold nameL; rw [decide_eq_true (by omega), decide_eq_true (by omega), hh]; simp)
      have z3 : 0 < s.size := by omega
      obtain ⟨c0, hc0⟩ : ∃ c, s[0] = c := ⟨_, rfl⟩
      have HD := Lib.hid (fun w1 => refDigit_any s[0] w1)
      obtain ⟨bd, hbd⟩ : ∃ b, Lx.digit s[0] = b := ⟨_, rfl⟩
      rw [hbd] at HN HD
      clear hbd h0 hh hc0
      cases bd
      · obtain ⟨bk, hbk⟩ : ∃ b, Lx.key (bs s) = b := ⟨_, rfl⟩
        have HK := Lib.hid (refKey_any s w)
        rw [hbk] at HN HK
        clear hbk
        cases bk
        · go_enter Tryz.func66, Tryz.ntmps66
          go_wp2_with fail
          refine (HD.out _).mono ?_
          rintro e w1 ⟨rfl, rfl⟩
          go_wp2_with fail
          refine HK.out.mono ?_
          rintro e w1 ⟨rfl, hb1⟩
          have HB1 := Lib.hid hb1
          clear hb1
          go_wp2_with fail
          go_loop [3] (fun i => ∃ k : Nat, k ≤ s.size ∧ i = .int .i64 k ∧ Hid (∀ j c, j < k → (bs s)[j]? = some c → Lx.wordy c = true)) (fun i => s.size - (intOf i).toNat)
          case atStart => exact ⟨0, Nat.zero_le _, rfl, Lib.hid (fun j c h => absurd h (by omega))⟩
          case round =>
            obtain ⟨k, hk, rfl, HA⟩ := hrel
            by_cases hlt : k < s.size
            · have HG := Lib.hid (bs_get s k hlt)
              have HNo := Lib.hid (show Lx.wordy s[k] = false → nameL (bs s) = false from fun e => by
                rw [HN.out]
                have : (bs s).all Lx.wordy = false := by
                  rw [← Bool.not_eq_true, List.all_eq_true]
                  intro h
                  have := h s[k] (List.mem_of_getElem? (bs_get s k hlt))
                  rw [e] at this; cases this
                rw [this]; simp)
              have HL := Lib.hid (fun w1 => refLetter_any s[k] w1)
              have HD2 := Lib.hid (fun w1 => refDigit_any s[k] w1)
              have HW := Lib.hid (show Lx.wordy s[k] = (Lx.letter s[k] || Lx.digit s[k]) from rfl)
              obtain ⟨bl, hbl⟩ : ∃ b, Lx.letter s[k] = b := ⟨_, rfl⟩
              obtain ⟨b2, hb2⟩ : ∃ b, Lx.digit s[k] = b := ⟨_, rfl⟩
              rw [hbl] at HL
              rw [hb2] at HD2
              rw [hbl, hb2] at HW
              clear hbl hb2
              have next : (bl || b2) = true → Hid (∀ j c, j < k + 1 → (bs s)[j]? = some c → Lx.wordy c = true) := fun hw => Lib.hid (fun j c hj hc => by
                rcases Nat.lt_or_ge j k with h | h
                · exact HA.out j c h hc
                · obtain rfl : j = k := by omega
                  rw [HG.out] at hc; obtain rfl := Option.some.inj hc
                  rw [HW.out, hw])
              cases bl
              · go_wp2_with fail
                refine (HL.out _).mono ?_
                rintro e w2 ⟨rfl, rfl⟩
                go_wp2_with fail
                refine (HD2.out _).mono ?_
                rintro e w2 ⟨rfl, rfl⟩
                cases b2
                · go_wp2_with fail
                  go_ret
                  exact ⟨ret_b (HNo.out HW.out).symm, HB1.out⟩
                · go_wp2_with fail
                  go_round
                  case rel => exact ⟨k + 1, by omega, by go_num, next rfl⟩
                  case measure => simp [intOf]; omega
              · go_wp2_with fail
                refine (HL.out _).mono ?_
                rintro e w2 ⟨rfl, rfl⟩
                go_wp2_with fail
                go_round
                case rel => exact ⟨k + 1, by omega, by go_num, next rfl⟩
                case measure => simp [intOf]; omega
            · have HY := Lib.hid (show nameL (bs s) = true by rw [HN.out, all_take HA.out (by omega)]; rfl)
              go_wp2_with fail
              go_ret
              exact ⟨ret_b HY.out.symm, HB1.out⟩
        · go_enter Tryz.func66, Tryz.ntmps66
          go_wp2_with fail
          refine (HD.out _).mono ?_
          rintro e w1 ⟨rfl, rfl⟩
          go_wp2_with fail
          refine HK.out.mono ?_
          rintro e w1 ⟨rfl, hb1⟩
          go_wp2_with fail
          go_ret
          exact ⟨ret_b (by rw [HN.out]; rfl), hb1⟩
      · go_enter Tryz.func66, Tryz.ntmps66
        go_wp2_with fail
        refine (HD.out _).mono ?_
        rintro e w1 ⟨rfl, rfl⟩
        go_wp2_with fail
        go_ret
        exact ⟨ret_b (by rw [HN.out]; rfl), Below.refl _ _⟩
end
section
open Go.RowKit Go.Shelf

def oneB (h : Hd) (len : Nat) (ag : Bool) : Bool := !(h.k == 4 && ag) && fitsB h len
theorem two8 {w w1 : World} {a0 a1 a2 a3 a4 a5 a6 a7 b0 b1 b2 : Value} {T T' : TypeId} (hb : Below ((w.alloc (.cells #[a0, a1, a2, a3, a4, a5, a6, a7] T)).alloc (.cells #[b0, b1, b2] T')).heap.size ((w.alloc (.cells #[a0, a1, a2, a3, a4, a5, a6, a7] T)).alloc (.cells #[b0, b1, b2] T')) w1) :
    (w1.cell? ⟨w.heap.size, 0, none⟩ = some a0 ∧ w1.cell? ⟨w.heap.size, 1, none⟩ = some a1 ∧ w1.cell? ⟨w.heap.size, 2, none⟩ = some a2 ∧ w1.cell? ⟨w.heap.size, 3, none⟩ = some a3 ∧
    w1.cell? ⟨w.heap.size, 4, none⟩ = some a4 ∧ w1.cell? ⟨w.heap.size, 5, none⟩ = some a5 ∧ w1.cell? ⟨w.heap.size, 6, none⟩ = some a6 ∧ w1.cell? ⟨w.heap.size, 7, none⟩ = some a7) := by
  have h1 := ((hb.block w.heap.size (by rw [World.size_alloc, World.size_alloc]; omega)).trans ((ba (w.alloc (.cells #[a0, a1, a2, a3, a4, a5, a6, a7] T)) (.cells #[b0, b1, b2] T')).block w.heap.size (by rw [World.size_alloc]; omega))).trans (MapKept.heap_alloc w (.cells #[a0, a1, a2, a3, a4, a5, a6, a7] T)).1
  exact (cell8 h1).1
end
section
open Go.RowKit Go.Shelf

set_option maxRecDepth 100000 in
set_option maxHeartbeats 16000000 in
theorem one_1 (h : Hd) (A : Option Addr) (len cap : Nat) (ag : Bool) (w : World) (hs : Sm h) (hk : h.k = 1) :
    Calls Tryz.prog 55 #[XV h A len cap, .bool ag] w fun e w' => e = .returned (.bool (oneB h len ag)) ∧ Below w.heap.size w w' := by
  obtain ⟨k, n, vk, vn, vs, tab, col⟩ := h
  obtain ⟨ht, hc, hv⟩ := hs
  simp only at ht hc hv
  obtain ⟨bO, hbO⟩ : ∃ b, okV vk vn vs = b := ⟨_, rfl⟩
  obtain ⟨bK, hbK⟩ : ∃ b, isName col = b := ⟨_, rfl⟩
  obtain ⟨bJ, hbJ⟩ : ∃ b, isName tab = b := ⟨_, rfl⟩
  have HO := Lib.hid (fun w1 => refCheck_any vk vn vs w1 (by omega))
  have HC := Lib.hid (fun w1 => refName_any col w1 (by omega))
  have HTb := Lib.hid (fun w1 => refName_any tab w1 (by omega))
  rw [hbO] at HO
  rw [hbK] at HC
  rw [hbJ] at HTb
  have hq := fun w1 => run_eqV vk vn vs 0 0 ⟨#[]⟩ w1
  obtain ⟨bT, hbT⟩ : ∃ b, tab.toList.isEmpty = b := ⟨_, rfl⟩
  obtain ⟨bC, hbC⟩ : ∃ b, col.toList.isEmpty = b := ⟨_, rfl⟩
  obtain ⟨bV, hbV⟩ : ∃ b, eqV vk vn vs 0 0 ⟨#[]⟩ = b := ⟨_, rfl⟩
  rw [hbV] at hq
  have HN := Lib.hid (show namelessB ⟨k, n, vk, vn, vs, tab, col⟩ = (bT && bC) by rw [namelessB, hbT, hbC])
  have HV := Lib.hid (show valuelessB ⟨k, n, vk, vn, vs, tab, col⟩ = bV from hbV)
  have HBx := Lib.hid (ba2 w (xbox ⟨k, n, vk, vn, vs, tab, col⟩ A len cap) (.cells #[.int .i64 0, .int .i64 0, .string ⟨#[]⟩] 23))
  have HF := Lib.hid (show oneB ⟨k, n, vk, vn, vs, tab, col⟩ len ag =
      (!(k == 4 && ag) && (if k = 1 then (bO && (vk != 2 || decide (0 ≤ vn))) && n == 0 && (bT && bC) && (len : Int) == 0
      else if k = 2 then (bK && (bT || bJ)) && decide (0 ≤ n) && decide (n < 32) && bV && (len : Int) == 0
      else if k = 3 then decide (0 < arI n) && ((len : Int) == arI n) && (bT && bC) && bV
      else if k = 4 then aggB n len && (bT && bC) && bV else false)) by
    unfold oneB fitsB; rw [HN.out, HV.out]; simp only [litB, colB, hbO, hbK, hbJ, hbT])
  clear hbV hv hbO hbK hbJ HN HV ht hc
  simp only at hk
  have h1 := hk
  clear hk
  subst h1
  simp only [if_true] at HF
  cases bT <;> cases bC <;> cases bO
  all_goals
    go_enter Tryz.func55, Tryz.ntmps55
    go_wp2_with (go_at_call 61; refine (HO.out _).mono ?_; rintro e w1 ⟨rfl, hb1⟩; obtain ⟨c0, c1, c2, c3, c4, c5, c6, c7⟩ := two8 hb1; have HB1 := Lib.hid (bt (ba2 w _ _) hb1); clear hb1)
    all_goals
      go_ret
      first
        | exact ⟨ret_bool (by rw [HF.out]; simp_all <;> (intros; omega)), HB1.out⟩
        | exact ⟨ret_bool (by rw [HF.out]; simp_all <;> (intros; omega)), ba2 w _ _⟩
end
section
open Go.RowKit Go.Shelf

set_option maxRecDepth 100000 in
set_option maxHeartbeats 16000000 in
theorem one_2 (h : Hd) (A : Option Addr) (len cap : Nat) (ag : Bool) (w : World) (hs : Sm h) (hk : h.k = 2) :
    Calls Tryz.prog 55 #[XV h A len cap, .bool ag] w fun e w' => e = .returned (.bool (oneB h len ag)) ∧ Below w.heap.size w w' := by
  obtain ⟨k, n, vk, vn, vs, tab, col⟩ := h
  obtain ⟨ht, hc, hv⟩ := hs
  simp only at ht hc hv
  obtain ⟨bO, hbO⟩ : ∃ b, okV vk vn vs = b := ⟨_, rfl⟩
  obtain ⟨bK, hbK⟩ : ∃ b, isName col = b := ⟨_, rfl⟩
  obtain ⟨bJ, hbJ⟩ : ∃ b, isName tab = b := ⟨_, rfl⟩
  have HO := Lib.hid (fun w1 => refCheck_any vk vn vs w1 (by omega))
  have HC := Lib.hid (fun w1 => refName_any col w1 (by omega))
  have HTb := Lib.hid (fun w1 => refName_any tab w1 (by omega))
  rw [hbO] at HO
  rw [hbK] at HC
  rw [hbJ] at HTb
  have hq := fun w1 => run_eqV vk vn vs 0 0 ⟨#[]⟩ w1
  obtain ⟨bT, hbT⟩ : ∃ b, tab.toList.isEmpty = b := ⟨_, rfl⟩
  obtain ⟨bC, hbC⟩ : ∃ b, col.toList.isEmpty = b := ⟨_, rfl⟩
  obtain ⟨bV, hbV⟩ : ∃ b, eqV vk vn vs 0 0 ⟨#[]⟩ = b := ⟨_, rfl⟩
  rw [hbV] at hq
  have HN := Lib.hid (show namelessB ⟨k, n, vk, vn, vs, tab, col⟩ = (bT && bC) by rw [namelessB, hbT, hbC])
  have HV := Lib.hid (show valuelessB ⟨k, n, vk, vn, vs, tab, col⟩ = bV from hbV)
  have HBx := Lib.hid (ba2 w (xbox ⟨k, n, vk, vn, vs, tab, col⟩ A len cap) (.cells #[.int .i64 0, .int .i64 0, .string ⟨#[]⟩] 23))
  have HF := Lib.hid (show oneB ⟨k, n, vk, vn, vs, tab, col⟩ len ag =
      (!(k == 4 && ag) && (if k = 1 then (bO && (vk != 2 || decide (0 ≤ vn))) && n == 0 && (bT && bC) && (len : Int) == 0
      else if k = 2 then (bK && (bT || bJ)) && decide (0 ≤ n) && decide (n < 32) && bV && (len : Int) == 0
      else if k = 3 then decide (0 < arI n) && ((len : Int) == arI n) && (bT && bC) && bV
      else if k = 4 then aggB n len && (bT && bC) && bV else false)) by
    unfold oneB fitsB; rw [HN.out, HV.out]; simp only [litB, colB, hbO, hbK, hbJ, hbT])
  clear hbV hv hbO hbK hbJ HN HV ht hc
  simp only at hk
  have h2 := hk
  clear hk
  rw [if_neg (by omega)] at HF
  subst h2
  simp only [if_true] at HF
  by_cases q1 : 0 ≤ n
  · by_cases q2 : n < 32
    · cases bV
      · go_enter Tryz.func55, Tryz.ntmps55
        go_wp2_with fail
        go_ret
        exact ⟨ret_bool (by rw [HF.out]; simp_all <;> (intros; omega)), by first | exact HBx.out | exact ba2 w _ _⟩
      · by_cases q4 : (len : Int) = 0
        · have q4b : ((len : Int) == 0) = true := by simpa using q4
          cases bK
          · go_enter Tryz.func55, Tryz.ntmps55
            go_wp2_with fail
            refine (HC.out _).mono ?_
            rintro e w1 ⟨rfl, hb1⟩
            have HB1 := Lib.hid (bt (ba2 w _ _) hb1)
            obtain ⟨c0, c1, c2, c3, c4, c5, c6, c7⟩ := two8 hb1
            clear hb1
            go_wp2_with fail
            go_ret
            exact ⟨ret_bool (by rw [HF.out]; simp_all <;> (intros; omega)), HB1.out⟩
          · cases bT
            · go_enter Tryz.func55, Tryz.ntmps55
              go_wp2_with fail
              refine (HC.out _).mono ?_
              rintro e w1 ⟨rfl, hb1⟩
              have HB1 := Lib.hid (bt (ba2 w _ _) hb1)
              obtain ⟨c0, c1, c2, c3, c4, c5, c6, c7⟩ := two8 hb1
              clear hb1
              go_wp2_with fail
              refine (HTb.out _).mono ?_
              rintro e w2 ⟨rfl, hb2⟩
              have HB2 := Lib.hid (bt HB1.out hb2)
              clear hb2
              go_wp2_with fail
              go_ret
              exact ⟨ret_bool (by rw [HF.out]; simp_all <;> (intros; omega)), HB2.out⟩
            · go_enter Tryz.func55, Tryz.ntmps55
              go_wp2_with fail
              refine (HC.out _).mono ?_
              rintro e w1 ⟨rfl, hb1⟩
              have HB1 := Lib.hid (bt (ba2 w _ _) hb1)
              obtain ⟨c0, c1, c2, c3, c4, c5, c6, c7⟩ := two8 hb1
              clear hb1
              go_wp2_with fail
              go_ret
              exact ⟨ret_bool (by rw [HF.out]; simp_all <;> (intros; omega)), HB1.out⟩
        · have q4b : ((len : Int) == 0) = false := by simpa using q4
          go_enter Tryz.func55, Tryz.ntmps55
          go_wp2_with fail
          go_ret
          exact ⟨ret_bool (by rw [HF.out]; simp_all <;> (intros; omega)), by first | exact HBx.out | exact ba2 w _ _⟩
    · go_enter Tryz.func55, Tryz.ntmps55
      go_wp2_with fail
      go_ret
      exact ⟨ret_bool (by rw [HF.out]; simp_all <;> (intros; omega)), by first | exact HBx.out | exact ba2 w _ _⟩
  · go_enter Tryz.func55, Tryz.ntmps55
    go_wp2_with fail
    go_ret
    exact ⟨ret_bool (by rw [HF.out]; simp_all <;> (intros; omega)), by first | exact HBx.out | exact ba2 w _ _⟩
end
section
open Go.RowKit Go.Shelf

set_option maxRecDepth 100000 in
set_option maxHeartbeats 16000000 in
theorem one_3 (h : Hd) (A : Option Addr) (len cap : Nat) (ag : Bool) (w : World) (hs : Sm h) (hl : len ≤ 9223372036854775807) (hk : h.k = 3) :
    Calls Tryz.prog 55 #[XV h A len cap, .bool ag] w fun e w' => e = .returned (.bool (oneB h len ag)) ∧ Below w.heap.size w w' := by
  obtain ⟨k, n, vk, vn, vs, tab, col⟩ := h
  obtain ⟨ht, hc, hv⟩ := hs
  simp only at ht hc hv
  obtain ⟨bO, hbO⟩ : ∃ b, okV vk vn vs = b := ⟨_, rfl⟩
  obtain ⟨bK, hbK⟩ : ∃ b, isName col = b := ⟨_, rfl⟩
  obtain ⟨bJ, hbJ⟩ : ∃ b, isName tab = b := ⟨_, rfl⟩
  have HO := Lib.hid (fun w1 => refCheck_any vk vn vs w1 (by omega))
  have HC := Lib.hid (fun w1 => refName_any col w1 (by omega))
  have HTb := Lib.hid (fun w1 => refName_any tab w1 (by omega))
  rw [hbO] at HO
  rw [hbK] at HC
  rw [hbJ] at HTb
  have hq := fun w1 => run_eqV vk vn vs 0 0 ⟨#[]⟩ w1
  obtain ⟨bT, hbT⟩ : ∃ b, tab.toList.isEmpty = b := ⟨_, rfl⟩
  obtain ⟨bC, hbC⟩ : ∃ b, col.toList.isEmpty = b := ⟨_, rfl⟩
  obtain ⟨bV, hbV⟩ : ∃ b, eqV vk vn vs 0 0 ⟨#[]⟩ = b := ⟨_, rfl⟩
  rw [hbV] at hq
  have HN := Lib.hid (show namelessB ⟨k, n, vk, vn, vs, tab, col⟩ = (bT && bC) by rw [namelessB, hbT, hbC])
  have HV := Lib.hid (show valuelessB ⟨k, n, vk, vn, vs, tab, col⟩ = bV from hbV)
  have HBx := Lib.hid (ba2 w (xbox ⟨k, n, vk, vn, vs, tab, col⟩ A len cap) (.cells #[.int .i64 0, .int .i64 0, .string ⟨#[]⟩] 23))
  have HF := Lib.hid (show oneB ⟨k, n, vk, vn, vs, tab, col⟩ len ag =
      (!(k == 4 && ag) && (if k = 1 then (bO && (vk != 2 || decide (0 ≤ vn))) && n == 0 && (bT && bC) && (len : Int) == 0
      else if k = 2 then (bK && (bT || bJ)) && decide (0 ≤ n) && decide (n < 32) && bV && (len : Int) == 0
      else if k = 3 then decide (0 < arI n) && ((len : Int) == arI n) && (bT && bC) && bV
      else if k = 4 then aggB n len && (bT && bC) && bV else false)) by
    unfold oneB fitsB; rw [HN.out, HV.out]; simp only [litB, colB, hbO, hbK, hbJ, hbT])
  clear hbV hv hbO hbK hbJ HN HV ht hc
  simp only at hk
  have h3 := hk
  clear hk
  rw [if_neg (by omega), if_neg (by omega)] at HF
  subst h3
  simp only [if_true] at HF
  obtain ⟨a, ha⟩ : ∃ a, arI n = a := ⟨_, rfl⟩
  have HAr := Lib.hid (fun w1 => refArity_any n w1)
  rw [ha] at HF HAr
  clear ha
  rcases (show bV = false ∨ (bV = true ∧ bT = false) ∨ (bV = true ∧ bT = true ∧ bC = false) ∨ (bV = true ∧ bT = true ∧ bC = true) by cases bV <;> cases bT <;> cases bC <;> simp) with hx | ⟨hx, hy⟩ | ⟨hx, hy, hz⟩ | ⟨hx, hy, hz⟩
  all_goals
    subst hx
    try subst hy
    try subst hz
  iterate 3
    (go_enter Tryz.func55, Tryz.ntmps55
     go_wp2_with fail
     go_quiet ((go_at_call 27; exact Calls.quiet_of_same (HAr.out _)))
     go_wp2_with fail
     go_ret
     exact ⟨ret_bool (by rw [HF.out]; simp), bt HBx.out (drNE _ _)⟩)
  by_cases hp : 0 < a
  · by_cases hla : (len : Int) = a
    · subst hla
      have hpn : 0 < len := by omega
      have hpd : decide (0 < len) = true := by simpa using hpn
      go_enter Tryz.func55, Tryz.ntmps55
      go_wp2_with fail
      go_quiet ((go_at_call 27; exact Calls.quiet_of_same (HAr.out _)))
      go_wp2_with fail
      go_ret
      exact ⟨ret_bool (by rw [HF.out]; simp_all <;> (intros; omega)), bt HBx.out (drNE _ _)⟩
    · have hpb : decide (0 < a) = true := by simpa using hp
      have hlb : ((len : Int) == a) = false := by simpa using hla
      go_enter Tryz.func55, Tryz.ntmps55
      go_wp2_with fail
      go_quiet ((go_at_call 27; exact Calls.quiet_of_same (HAr.out _)))
      go_wp2_with fail
      go_ret
      exact ⟨ret_bool (by rw [HF.out]; simp_all <;> (intros; omega)), bt HBx.out (drNE _ _)⟩
  · have hpb : decide (0 < a) = false := by simpa using hp
    go_enter Tryz.func55, Tryz.ntmps55
    go_wp2_with fail
    go_quiet ((go_at_call 27; exact Calls.quiet_of_same (HAr.out _)))
    go_wp2_with fail
    go_ret
    exact ⟨ret_bool (by rw [HF.out]; simp_all <;> (intros; omega)), bt HBx.out (drNE _ _)⟩
end
section
open Go.RowKit Go.Shelf

set_option maxRecDepth 100000 in
set_option maxHeartbeats 16000000 in
theorem one_4 (h : Hd) (A : Option Addr) (len cap : Nat) (ag : Bool) (w : World) (hs : Sm h) (hl : len ≤ 9223372036854775807) (hk : h.k = 4) :
    Calls Tryz.prog 55 #[XV h A len cap, .bool ag] w fun e w' => e = .returned (.bool (oneB h len ag)) ∧ Below w.heap.size w w' := by
  obtain ⟨k, n, vk, vn, vs, tab, col⟩ := h
  obtain ⟨ht, hc, hv⟩ := hs
  simp only at ht hc hv
  obtain ⟨bO, hbO⟩ : ∃ b, okV vk vn vs = b := ⟨_, rfl⟩
  obtain ⟨bK, hbK⟩ : ∃ b, isName col = b := ⟨_, rfl⟩
  obtain ⟨bJ, hbJ⟩ : ∃ b, isName tab = b := ⟨_, rfl⟩
  have HO := Lib.hid (fun w1 => refCheck_any vk vn vs w1 (by omega))
  have HC := Lib.hid (fun w1 => refName_any col w1 (by omega))
  have HTb := Lib.hid (fun w1 => refName_any tab w1 (by omega))
  rw [hbO] at HO
  rw [hbK] at HC
  rw [hbJ] at HTb
  have hq := fun w1 => run_eqV vk vn vs 0 0 ⟨#[]⟩ w1
  obtain ⟨bT, hbT⟩ : ∃ b, tab.toList.isEmpty = b := ⟨_, rfl⟩
  obtain ⟨bC, hbC⟩ : ∃ b, col.toList.isEmpty = b := ⟨_, rfl⟩
  obtain ⟨bV, hbV⟩ : ∃ b, eqV vk vn vs 0 0 ⟨#[]⟩ = b := ⟨_, rfl⟩
  rw [hbV] at hq
  have HN := Lib.hid (show namelessB ⟨k, n, vk, vn, vs, tab, col⟩ = (bT && bC) by rw [namelessB, hbT, hbC])
  have HV := Lib.hid (show valuelessB ⟨k, n, vk, vn, vs, tab, col⟩ = bV from hbV)
  have HBx := Lib.hid (ba2 w (xbox ⟨k, n, vk, vn, vs, tab, col⟩ A len cap) (.cells #[.int .i64 0, .int .i64 0, .string ⟨#[]⟩] 23))
  have HF := Lib.hid (show oneB ⟨k, n, vk, vn, vs, tab, col⟩ len ag =
      (!(k == 4 && ag) && (if k = 1 then (bO && (vk != 2 || decide (0 ≤ vn))) && n == 0 && (bT && bC) && (len : Int) == 0
      else if k = 2 then (bK && (bT || bJ)) && decide (0 ≤ n) && decide (n < 32) && bV && (len : Int) == 0
      else if k = 3 then decide (0 < arI n) && ((len : Int) == arI n) && (bT && bC) && bV
      else if k = 4 then aggB n len && (bT && bC) && bV else false)) by
    unfold oneB fitsB; rw [HN.out, HV.out]; simp only [litB, colB, hbO, hbK, hbJ, hbT])
  clear hbV hv hbO hbK hbJ HN HV ht hc
  simp only at hk
  have h4 := hk
  clear hk
  rw [if_neg (by omega), if_neg (by omega), if_neg (by omega)] at HF
  subst h4
  simp only [if_true] at HF
  rcases (show ag = true ∨ (ag = false ∧ bV = false) ∨ (ag = false ∧ bV = true ∧ bT = false) ∨ (ag = false ∧ bV = true ∧ bT = true ∧ bC = false) ∨ (ag = false ∧ bV = true ∧ bT = true ∧ bC = true) by cases ag <;> cases bV <;> cases bT <;> cases bC <;> simp) with hx | ⟨hx, hy⟩ | ⟨hx, hy, hz⟩ | ⟨hx, hy, hz, hu⟩ | ⟨hx, hy, hz, hu⟩
  all_goals
    subst hx
    try subst hy
    try subst hz
    try subst hu
  iterate 4
    (go_enter Tryz.func55, Tryz.ntmps55
     go_wp2_with fail
     go_ret
     exact ⟨ret_bool (by rw [HF.out]; simp), HBx.out⟩)
  have HA := Lib.hid (show aggB n len = if n = 1 then (len : Int) == 0 else decide (1 < n) && decide (n ≤ 5) && (len : Int) == 1 from rfl)
  rcases (show ¬ 1 ≤ n ∨ (1 ≤ n ∧ ¬ n ≤ 5) ∨ (n = 1 ∧ len = 0) ∨ (n = 1 ∧ ¬ len = 0) ∨ (1 ≤ n ∧ n ≤ 5 ∧ ¬ n = 1 ∧ len = 0) ∨ (1 ≤ n ∧ n ≤ 5 ∧ ¬ n = 1 ∧ ¬ len = 0 ∧ len ≤ 1) ∨ (1 ≤ n ∧ n ≤ 5 ∧ ¬ n = 1 ∧ ¬ len = 0 ∧ ¬ len ≤ 1) by omega) with p1 | ⟨p1, p2⟩ | ⟨p1, p2⟩ | ⟨p1, p2⟩ | ⟨p1, p2, p3, p4⟩ | ⟨p1, p2, p3, p4, p5⟩ | ⟨p1, p2, p3, p4, p5⟩
  · have HR := Lib.hid (show aggB n len = false by rw [HA.out, if_neg (by omega), decide_eq_false (p := 1 < n) (by omega)]; rfl)
    go_enter Tryz.func55, Tryz.ntmps55
    go_wp2_with fail
    go_ret
    exact ⟨ret_bool (by rw [HF.out, HR.out]; simp), HBx.out⟩
  · have HR := Lib.hid (show aggB n len = false by rw [HA.out, if_neg (by omega), decide_eq_false (p := n ≤ 5) (by omega), Bool.and_false]; rfl)
    go_enter Tryz.func55, Tryz.ntmps55
    go_wp2_with fail
    go_ret
    exact ⟨ret_bool (by rw [HF.out, HR.out]; simp), HBx.out⟩
  · subst p1 p2
    go_enter Tryz.func55, Tryz.ntmps55
    go_wp2_with fail
    go_ret
    exact ⟨ret_bool (by rw [HF.out]; rfl), ba2 w _ _⟩
  · subst p1
    have q : ((len : Int) == 0) = false := by simp; omega
    have HR := Lib.hid (show aggB 1 len = false by rw [HA.out, if_pos rfl, q])
    go_enter Tryz.func55, Tryz.ntmps55
    go_wp2_with fail
    go_ret
    exact ⟨ret_bool (by rw [HF.out, HR.out]; simp), ba2 w _ _⟩
  · subst p4
    have q : (n == 1) = false := by simpa using p3
    have HR := Lib.hid (show aggB n (0 : Nat) = false by rw [HA.out, if_neg p3]; simp)
    go_enter Tryz.func55, Tryz.ntmps55
    go_wp2_with fail
    go_ret
    exact ⟨ret_bool (by rw [HF.out, HR.out]; simp), ba2 w _ _⟩
  · obtain rfl : len = 1 := by omega
    have q : (n == 1) = false := by simpa using p3
    have HR := Lib.hid (show aggB n (1 : Nat) = true by rw [HA.out, if_neg p3, decide_eq_true (p := 1 < n) (by omega), decide_eq_true (p := n ≤ 5) p2]; rfl)
    go_enter Tryz.func55, Tryz.ntmps55
    go_wp2_with fail
    go_ret
    exact ⟨ret_bool (by rw [HF.out, HR.out]; simp), ba2 w _ _⟩
  · have q : (n == 1) = false := by simpa using p3
    have q2 : ((len : Int) == 0) = false := by simp; omega
    have q3 : ¬ (len : Int) ≤ 1 := by omega
    have HR := Lib.hid (show aggB n len = false by rw [HA.out, if_neg p3, show ((len : Int) == 1) = false by simp; omega, Bool.and_false])
    go_enter Tryz.func55, Tryz.ntmps55
    go_wp2_with fail
    go_ret
    exact ⟨ret_bool (by rw [HF.out, HR.out]; simp), HBx.out⟩
end
end Go.Proofs.YteckhaicodmakaaGreatDoor
