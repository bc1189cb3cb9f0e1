/-
  Package catalog: the document's Large.
Names, as the document has them.
Contract of row.Put: a row's bytes, in a row of just that capacity.
Contracts of row.cutValue and row.readValue.
Contract of row.getValue.
Contract of row.Get.
Plain: what is put is got, whatever follows.
Plain: what is got has the bytes that it was got from.
Plain: pages: a page's bytes of rows; the rows of bytes, as they are read; a page has just one way to be.
Plain: what is read is what was made, and the other way round; the document's own reading is the same.
Contracts of page.open and what it calls: the rows of a page's bytes.
Contract of page.open.
Contracts of page.Rows, Get, Check, Count, Room, New.
-/
import Derived.Test.YtmjckdgomlppeaaGreatDoorZ6
import Derived.Deep.QuietTactic
import Derived.BigQuiet
import Derived.IntWalk
section
namespace Go.Proofs.YtmjckdgomlppeaaGreatDoor
open Go.RowKit Go.Shelf
attribute [local go_sem] Oper.semAt_some

def longR (r : List Va) : Bool := decide (50 < r.length)
def headL (t : Ta) : Bool := decide (40 < t.cols.length) || (decide (300 < t.rows.length) && decide (t.rows.length ≤ 4096)) || decide (5000 < t.rows.length)
def largeT (t : Ta) : Bool := headL t || t.rows.any longR
def largeC (l : List Ta) : Bool := decide (30 < l.length) || l.any largeT
theorem largeC_at {l : List Ta} {j : Nat} (hj : j < l.length) (h : largeT l[j] = true) : largeC l = true := by
  rw [largeC, List.any_eq_true.2 ⟨_, List.getElem_mem hj, h⟩, Bool.or_true]
theorem largeC_no {l : List Ta} (h0 : l.length ≤ 30) (h : ∀ i (hi : i < l.length), largeT l[i] = false) : largeC l = false := by
  rw [largeC, decide_eq_false (by omega), Bool.false_or, List.any_eq_false]
  intro t ht
  obtain ⟨i, hi, rfl⟩ := List.mem_iff_getElem.1 ht
  rw [h i hi]; simp
theorem longR_no {rs : List (List Va)} (h : ∀ i (hi : i < rs.length), longR rs[i] = false) : rs.any longR = false := by
  rw [List.any_eq_false]
  intro t ht
  obtain ⟨i, hi, rfl⟩ := List.mem_iff_getElem.1 ht
  rw [h i hi]; simp
set_option maxRecDepth 100000 in
set_option maxHeartbeats 4000000 in
theorem large13_any (A : Option Addr) (c : Nat) (l : List Ta) (w : World) (h : CtAt w A l) (hl : l.length ≤ 9223372036854775807) {q : Bool} (hq : largeC l = q) :
    Calls Tryz.prog 8 #[.slice A l.length c] w fun e w' => e = .returned (.bool q) ∧ Below w.heap.size w w' := by
  have HH := Lib.hid h
  have HQ := Lib.hid hq
  clear h hq
  by_cases h30 : 30 < l.length
  · obtain rfl : true = q := by rw [← HQ.out, largeC, decide_eq_true h30]; rfl
    have hI : (30 : Int) < (l.length : Int) := by omega
    clear h30
    go_enter Tryz.func8, Tryz.ntmps8
    go_wp2_with fail
    go_ret
    exact ⟨rfl, Below.refl _ _⟩
  · have hI : ¬ (30 : Int) < (l.length : Int) := by omega
    have H30 := Lib.hid (show l.length ≤ 30 by omega)
    clear h30
    go_enter Tryz.func8, Tryz.ntmps8
    go_wp2_with fail
    clear hI
    go_loopw [3] (fun i wr => ∃ j : Nat, j ≤ l.length ∧ i = .int .i64 j ∧ Hid (Below w.heap.size w wr) ∧ Hid (∀ i (hi : i < l.length), i < j → largeT l[i] = false)) (fun i _ => l.length - (intOf i).toNat)
    case atStart => exact ⟨0, Nat.zero_le _, rfl, Lib.hid (Below.refl _ _), Lib.hid (fun i hi h => absurd h (by omega))⟩
    case round =>
      obtain ⟨j, hj, rfl, HW, HNo⟩ := hrel
      obtain ⟨wo, rfl⟩ : ∃ wo : World, wo = wr := ⟨_, rfl⟩
      have h30 := H30.out
      by_cases hlt : j < l.length
      · obtain ⟨b1, off1, rfl, hb1, Ac, cc, Ar, dd, x0, x1, x2, ht⟩ := (HH.out.kept HW.out).at hlt
        have HAt := Lib.hid (fun (h : largeT l[j] = true) => largeC_at hlt h)
        have HNx := Lib.hid (fun (h : largeT l[j] = false) i (hi : i < l.length) (h' : i < j + 1) => by
          rcases Nat.lt_or_ge i j with h1 | h1
          · exact HNo.out i hi h1
          · obtain rfl : i = j := by omega
            exact h)
        have HLt := Lib.hid hlt
        have hjI : (j : Int) < (l.length : Int) := by omega
        have hj0 : 0 ≤ (j : Int) := Int.natCast_nonneg _
        generalize l[j] = t at x0 x1 x2 ht HAt HNx
        have HR := Lib.hid ht.ro
        have HBl := Lib.hid hb1
        clear ht hb1 hlt x0
        obtain ⟨n1, hn1⟩ : ∃ n1, t.cols.length = n1 := ⟨_, rfl⟩
        obtain ⟨n2, hn2⟩ : ∃ n2, t.rows.length = n2 := ⟨_, rfl⟩
        have HHd := Lib.hid (show headL t = (decide (40 < n1) || (decide (300 < n2) && decide (n2 ≤ 4096)) || decide (5000 < n2)) by rw [← hn1, ← hn2]; rfl)
        have HN2 := Lib.hid hn2
        rw [hn1] at x1
        rw [hn2] at x2
        clear hn1 hn2
        by_cases c40 : 40 < n1
        · obtain rfl : true = q := by rw [← HQ.out, HAt.out (by rw [largeT, HHd.out, decide_eq_true c40]; rfl)]
          have hI : (40 : Int) < (n1 : Int) := by omega
          clear c40 h30 hj
          go_wp2_with fail
          go_ret
          exact ⟨rfl, HW.out⟩
        · have hI40 : ¬ (40 : Int) < (n1 : Int) := by omega
          by_cases hd : headL t = true
          · obtain rfl : true = q := by rw [← HQ.out, HAt.out (by rw [largeT, hd]; rfl)]
            rw [HHd.out, decide_eq_false c40, Bool.false_or] at hd
            by_cases c300 : 300 < n2
            · have hI300 : (300 : Int) < (n2 : Int) := by omega
              by_cases c4096 : n2 ≤ 4096
              · have hI4096 : (n2 : Int) ≤ 4096 := by omega
                clear c40 c300 c4096 hd h30 hj
                go_wp2_with fail
                go_ret
                exact ⟨rfl, HW.out⟩
              · have hI4096 : ¬ (n2 : Int) ≤ 4096 := by omega
                have c5000 : 5000 < n2 := by rw [decide_eq_false c4096, Bool.and_false, Bool.false_or] at hd; exact of_decide_eq_true hd
                have hI5000 : (5000 : Int) < (n2 : Int) := by omega
                clear c40 c300 c4096 c5000 hd h30 hj
                go_wp2_with fail
                go_ret
                exact ⟨rfl, HW.out⟩
            · exfalso
              rw [decide_eq_false c300, Bool.false_and, Bool.false_or] at hd
              have := of_decide_eq_true hd
              omega
          · have hdf : headL t = false := by simpa using hd
            have HDF := Lib.hid hdf
            rw [HHd.out, decide_eq_false c40, Bool.false_or, Bool.or_eq_false_iff] at hdf
            have hI5000 : ¬ (5000 : Int) < (n2 : Int) := by have := of_decide_eq_false hdf.2; omega
            have H5 := Lib.hid (show n2 ≤ 5000 by have := of_decide_eq_false hdf.2; omega)
            have hcase : ¬ (300 : Int) < (n2 : Int) ∨ ((300 : Int) < (n2 : Int) ∧ ¬ (n2 : Int) ≤ 4096) := by
              rw [Bool.and_eq_false_iff] at hdf
              rcases hdf.1 with h | h
              · exact .inl (by have := of_decide_eq_false h; omega)
              · by_cases c300 : 300 < n2
                · exact .inr ⟨by omega, by have := of_decide_eq_false h; omega⟩
                · exact .inl (by omega)
            clear c40 hd hdf h30 hj
            have HX2 := Lib.hid (fun W (hb : Below wo.heap.size wo W) => (hb.cell (p := ⟨b1, off1 + j * 3 + 2, none⟩) HBl.out).trans x2)
            rcases hcase with hI300 | ⟨hI300, hI4096⟩
            all_goals
              go_wp2_with fail
              clear x1 x2 hI40 hI300 hI5000
              try clear hI4096
              go_loopw [4] (fun i wr => ∃ k : Nat, k ≤ n2 ∧ i = .int .i64 k ∧ Hid (Below wo.heap.size wo wr) ∧ Hid (∀ i (hi : i < t.rows.length), i < k → longR t.rows[i] = false)) (fun i _ => n2 - (intOf i).toNat)
              case atStart => exact ⟨0, Nat.zero_le _, rfl, Lib.hid (Below.refl _ _), Lib.hid (fun i hi h => absurd h (by omega))⟩
              case round =>
                obtain ⟨k, hk, rfl, HV, HNk⟩ := hrel
                have y2 := HX2.out wr HV.out
                have h5 := H5.out
                by_cases hkl : k < n2
                · have hkt : k < t.rows.length := by rw [HN2.out]; exact hkl
                  obtain ⟨b3, off3, rfl, hz1, A3, c3, r0, hz2, hz3, hz4⟩ := HR.out.at HV.out hkt
                  clear hz1 hz2 hz3 hz4
                  have hkI : (k : Int) < (n2 : Int) := by omega
                  have hk0 : 0 ≤ (k : Int) := Int.natCast_nonneg _
                  have HBk := Lib.hid (bt HW.out HV.out)
                  cases hlr : longR t.rows[k]
                  · have HNk1 := Lib.hid (fun i (hi : i < t.rows.length) (h' : i < k + 1) => by
                      rcases Nat.lt_or_ge i k with h1 | h1
                      · exact HNk.out i hi h1
                      · obtain rfl : i = k := by omega
                        exact hlr)
                    have hl50 : ¬ (50 : Int) < (t.rows[k].length : Int) := by have := of_decide_eq_false hlr; omega
                    generalize (t.rows[k]).length = n3 at r0 hl50
                    clear hlr hkt
                    go_wp2_with fail
                    go_roundw
                    case rel => exact ⟨k + 1, by omega, by go_num, HV, HNk1⟩
                    case measure => simp [intOf]; omega
                  · obtain rfl : true = q := by rw [← HQ.out, HAt.out (by rw [largeT, any_yes hkt hlr, Bool.or_true])]
                    have hl50 : (50 : Int) < (t.rows[k].length : Int) := by have := of_decide_eq_true hlr; omega
                    generalize (t.rows[k]).length = n3 at r0 hl50
                    clear hlr hkt
                    go_wp2_with fail
                    go_ret
                    exact ⟨rfl, HBk.out⟩
                · have HNn := Lib.hid (HNx.out (by rw [largeT, HDF.out, longR_no fun i hi => HNk.out i hi (by have := HN2.out; omega)]; rfl))
                  have HBk := Lib.hid (bt HW.out HV.out)
                  have h30 := H30.out
                  have hlt := HLt.out
                  go_wp2_with fail
                  go_roundw
                  case rel => first | exact ⟨j + 1, by omega, by go_num, HBk, HNn⟩ | ((repeat apply Exists.intro); exact ⟨⟨j + 1, by omega, by go_num, HBk, HNn⟩, rfl⟩)
                  case measure => simp [intOf]; omega
      · obtain rfl : false = q := by rw [← HQ.out, largeC_no H30.out fun i hi => HNo.out i hi (by omega)]
        go_wp2_with fail
        go_ret
        exact ⟨rfl, HW.out⟩
end Go.Proofs.YtmjckdgomlppeaaGreatDoor
end
section
namespace Go.Proofs.YtmjckdgomlppeaaGreatDoor
open Go.RowKit Go.Shelf
/-- A name, byte by byte. -/
def nameL (l : Lx.B) : Bool := decide (1 ≤ l.length) && decide (l.length ≤ 24) && !((l.head?.map Lx.digit).getD false) && !Lx.key l && l.all Lx.wordy
theorem take_all (l : Lx.B) : (l.takeWhile Lx.wordy).length = l.length ↔ l.all Lx.wordy = true := by
  induction l with
  | nil => simp
  | cons c l ih =>
    cases hc : Lx.wordy c with
    | true => simp [hc, ih]
    | false => simp [hc]
theorem take_eq {l : Lx.B} (h : l.all Lx.wordy = true) : l.takeWhile Lx.wordy = l := by
  have := Lx.takeWhile_take Lx.wordy l
  rw [(take_all l).2 h, List.take_length] at this
  exact this.symm
theorem isName_eq (s : ByteArray) : isName s = nameL (bs s) := by
  have hl : (bs s).length = s.size := by simp
  unfold isName
  cases hb : bs s with
  | nil => simp [Lx.cut, nameL]
  | cons c r =>
    rw [hb] at hl
    rw [Lx.cut]
    by_cases h1 : Lx.letter c = true
    · have hd : Lx.digit c = false := by
        cases h : Lx.digit c with
        | false => rfl
        | true => rw [Lx.digit_letter h] at h1; cases h1
      rw [if_pos h1, Lx.cutWord]
      cases ha : (c :: r).all Lx.wordy with
      | true =>
        rw [take_eq ha]
        unfold nameL
        rw [ha]
        by_cases h24 : 24 < (c :: r).length
        · rw [if_pos h24]
          have : decide ((c :: r).length ≤ 24) = false := decide_eq_false (by omega)
          rw [this, Bool.and_false]; rfl
        · rw [if_neg h24]
          have h25 : decide ((c :: r).length ≤ 24) = true := decide_eq_true (by omega)
          have h26 : decide (1 ≤ (c :: r).length) = true := by simp
          rw [h25, h26]
          cases hk : Lx.key (c :: r) with
          | true => simp
          | false => simp [hd, ← hl]
      | false =>
        have hne : ¬ ((c :: r).takeWhile Lx.wordy).length = s.size := fun e => by
          have := (take_all (c :: r)).1 (by rw [e, hl])
          rw [ha] at this; cases this
        unfold nameL
        rw [ha, Bool.and_false]
        split
        · rename_i t z e
          split at e
          · cases e
          · simp only [Option.some.injEq, Prod.mk.injEq] at e
            rw [← e.2]
            simp only [hne, decide_false, Bool.and_false]
        · rfl
    · rw [if_neg h1]
      by_cases h2 : Lx.digit c = true
      · rw [if_pos h2, Lx.cutNum]
        have : nameL (c :: r) = false := by simp [nameL, h2]
        rw [this]
        split
        · rename_i t z e
          split at e
          · cases e
          · split at e
            · cases e
            · simp only [Option.some.injEq, Prod.mk.injEq] at e
              rw [← e.1]; rfl
        · rfl
      · rw [if_neg h2]
        have hw : Lx.wordy c = false := by simp [Lx.wordy, h1, h2]
        have : nameL (c :: r) = false := by simp [nameL, hw]
        rw [this]
        split
        · rename_i t z e
          split at e
          · rw [Lx.cutText] at e
            simp only [Option.map_eq_some_iff] at e
            obtain ⟨_, _, e⟩ := e
            simp only [Prod.mk.injEq] at e
            rw [← e.1]; rfl
          · rw [Lx.cutSign] at e
            simp only [Option.map_eq_some_iff] at e
            obtain ⟨_, _, e⟩ := e
            simp only [Prod.mk.injEq] at e
            rw [← e.1]; rfl
        · rfl
theorem refLetter_any (c : UInt8) (w : World) :
    Calls Tryz.prog 60 #[.int .u8 c.toNat] w fun e w' => e = .returned (.bool (Lx.letter c)) ∧ w' = w := by
  have hc : ∀ n : Nat, (c = UInt8.ofNat n) → n < 256 → (c.toNat = n) := by rintro n rfl h; simp; omega
  have hl : Lx.letter c = decide (c.toNat = 95 ∨ (97 ≤ c.toNat ∧ c.toNat ≤ 122) ∨ (65 ≤ c.toNat ∧ c.toNat ≤ 90)) := by
    unfold Lx.letter
    congr 1
    rw [← UInt8.toNat_inj]; rfl
  rw [hl]
  generalize c.toNat = m
  clear hc hl
  go_enter Tryz.func60, Tryz.ntmps60
  go_wp2
  all_goals
    go_ret
    exact ⟨ret_bool (by first | rfl | (rw [Bool.eq_iff_iff]; simp; done) | (rw [Bool.eq_iff_iff]; simp; omega)), rfl⟩
theorem refDigit_any (c : UInt8) (w : World) :
    Calls Tryz.prog 58 #[.int .u8 c.toNat] w fun e w' => e = .returned (.bool (Lx.digit c)) ∧ w' = w := by
  unfold Lx.digit
  generalize c.toNat = m
  go_enter Tryz.func58, Tryz.ntmps58
  go_wp2
  all_goals
    go_ret
    exact ⟨ret_bool (by first | rfl | (rw [Bool.eq_iff_iff]; simp; done) | (rw [Bool.eq_iff_iff]; simp; omega)), rfl⟩
/-- The words, as the document's Keys lays them. -/
def keyCells : Array Value := (Lx.keys.map fun b => Value.string ⟨b.toArray⟩).toArray
theorem refKeys_any (w : World) :
    Calls Tryz.prog 84 #[] w fun e w' => e = .returned (.slice (some ⟨w.heap.size, 0, none⟩) 28 28) ∧ w' = w.alloc (.cells keyCells 9) := by
  go_enter Tryz.func84, Tryz.ntmps84
  go_wp2
  go_ret
  exact ⟨rfl, congrArg (fun c => w.alloc (.cells c 9)) (by kernel_rfl)⟩
theorem keyCells_at (w : World) {j : Nat} {b : Lx.B} (h : Lx.keys[j]? = some b) : (w.alloc (.cells keyCells 9)).cell? ⟨w.heap.size, j, none⟩ = some (.string ⟨b.toArray⟩) := by
  have hn := (MapKept.heap_alloc w (.cells keyCells 9)).1
  unfold World.cell?
  rw [hn]
  simp [keyCells, h]
set_option maxHeartbeats 1000000 in
theorem refKey_any (s : ByteArray) (w : World) :
    Calls Tryz.prog 59 #[.string s] w fun e w' => e = .returned (.bool (Lx.key (bs s))) ∧ Below w.heap.size w w' := by
  go_enter Tryz.func59, Tryz.ntmps59
  go_wp2_with fail
  refine (refKeys_any _).mono ?_
  rintro e w1 ⟨rfl, hw1⟩
  have HK := Lib.hid (fun j b (h : Lx.keys[j]? = some b) => (by rw [hw1]; exact keyCells_at w h : w1.cell? ⟨w.heap.size, j, none⟩ = some (.string ⟨b.toArray⟩)))
  have HB := Lib.hid (by rw [hw1]; exact ba w _ : Below w.heap.size w w1)
  have hsz : w1.heap.size = w.heap.size + 1 := by rw [hw1, World.size_alloc]
  clear hw1
  go_wp2_with fail
  go_loop [4] (fun i => ∃ k : Nat, k ≤ 28 ∧ i = .int .i64 k ∧ Hid (∀ j b, j < k → Lx.keys[j]? = some b → b ≠ bs s)) (fun i => 28 - (intOf i).toNat)
  case atStart => exact ⟨0, Nat.zero_le _, rfl, Lib.hid (fun j c h => absurd h (by omega))⟩
  case round =>
    obtain ⟨k, hk, rfl, HA⟩ := hrel
    by_cases hlt : k < 28
    · obtain ⟨b, hb⟩ : ∃ b, Lx.keys[k]? = some b := ⟨_, List.getElem?_eq_getElem (by rw [keys_len]; exact hlt)⟩
      have hc := HK.out k b hb
      have HBb := Lib.hid hb
      have hq : ((⟨b.toArray⟩ : ByteArray).toList == s.toList) = (b == bs s) := tl_bs _ _
      clear hb
      generalize (⟨b.toArray⟩ : ByteArray) = kb at hc hq
      cases he : b == bs s
      · rw [he] at hq
        go_wp2_with fail
        go_round
        case rel =>
          refine ⟨k + 1, by omega, by go_num, Lib.hid (fun j x hj hx => ?_)⟩
          rcases Nat.lt_or_ge j k with h | h
          · exact HA.out j x h hx
          · obtain rfl : j = k := by omega
            rw [HBb.out] at hx; obtain rfl := Option.some.inj hx; simpa using he
        case measure => simp [intOf]; omega
      · rw [he] at hq
        go_wp2_with fail
        go_ret
        refine ⟨ret_b ?_, HB.out⟩
        obtain rfl : b = bs s := by simpa using he
        symm; rw [Lx.key, List.contains_iff_mem]
        exact List.mem_of_getElem? HBb.out
    · go_wp2_with fail
      go_ret
      refine ⟨ret_b ?_, HB.out⟩
      symm; rw [Lx.key, Bool.eq_false_iff]
      intro h
      rw [List.contains_iff_mem] at h
      obtain ⟨j, hj⟩ := List.getElem?_of_mem h
      have : j < 28 := by have := (List.getElem?_eq_some_iff.1 hj).1; rw [keys_len] at this; exact this
      exact HA.out j _ (by omega) hj rfl
theorem all_take {l : Lx.B} {k : Nat} (h : ∀ j c, j < k → l[j]? = some c → Lx.wordy c = true) (hk : l.length ≤ k) : l.all Lx.wordy = true := by
  rw [List.all_eq_true]
  intro c hc
  obtain ⟨j, hj⟩ := List.getElem?_of_mem hc
  exact h j c (by have := (List.getElem?_eq_some_iff.1 hj).1; omega) hj
set_option maxHeartbeats 2000000 in
theorem refName_any (s : ByteArray) (w : World) (hs : s.size ≤ 9223372036854775807) :
    Calls Tryz.prog 37 #[.string s] w fun e w' => e = .returned (.bool (isName s)) ∧ Below w.heap.size w w' := by
  rw [isName_eq]
  have hL : (bs s).length = s.size := bs_len s
  by_cases z1 : s.size < 1
  · have y1 : (s.size : Int) < 1 := by omega
    have HN := Lib.hid (show nameL (bs s) = false by unfold nameL; rw [decide_eq_false (by omega)]; simp)
    go_enter Tryz.func37, Tryz.ntmps37
    go_wp2_with fail
    go_ret
    exact ⟨ret_b HN.out.symm, Below.refl _ _⟩
  · have y1 : ¬ (s.size : Int) < 1 := by omega
    by_cases z2 : 24 < s.size
    · have y2 : (24 : Int) < (s.size : Int) := by omega
      have HN := Lib.hid (show nameL (bs s) = false by unfold nameL; rw [decide_eq_false (p := (bs s).length ≤ 24) (by omega)]; simp)
      go_enter Tryz.func37, Tryz.ntmps37
      go_wp2_with fail
      go_ret
      exact ⟨ret_b HN.out.symm, Below.refl _ _⟩
    · have y2 : ¬ (24 : Int) < (s.size : Int) := by omega
      have h0 := bs_get s 0 (by omega)
      have hh : (bs s).head? = some s[0] := by rw [← List.head?_eq_getElem?] at h0; exact h0
      have HN := Lib.hid (show nameL (bs s) = (!Lx.digit s[0] && !Lx.key (bs s) && (bs s).all Lx.wordy) by
        unfold nameL; rw [decide_eq_true (by omega), decide_eq_true (by omega), hh]; simp)
      have z3 : 0 < s.size := by omega
      obtain ⟨c0, hc0⟩ : ∃ c, s[0] = c := ⟨_, rfl⟩
      have HD := Lib.hid (fun w1 => refDigit_any s[0] w1)
      obtain ⟨bd, hbd⟩ : ∃ b, Lx.digit s[0] = b := ⟨_, rfl⟩
      rw [hbd] at HN HD
      clear hbd h0 hh hc0
      cases bd
      · obtain ⟨bk, hbk⟩ : ∃ b, Lx.key (bs s) = b := ⟨_, rfl⟩
        have HK := Lib.hid (refKey_any s w)
        rw [hbk] at HN HK
        clear hbk
        cases bk
        · go_enter Tryz.func37, Tryz.ntmps37
          go_wp2_with fail
          refine (HD.out _).mono ?_
          rintro e w1 ⟨rfl, rfl⟩
          go_wp2_with fail
          refine HK.out.mono ?_
          rintro e w1 ⟨rfl, hb1⟩
          have HB1 := Lib.hid hb1
          clear hb1
          go_wp2_with fail
          go_loop [3] (fun i => ∃ k : Nat, k ≤ s.size ∧ i = .int .i64 k ∧ Hid (∀ j c, j < k → (bs s)[j]? = some c → Lx.wordy c = true)) (fun i => s.size - (intOf i).toNat)
          case atStart => exact ⟨0, Nat.zero_le _, rfl, Lib.hid (fun j c h => absurd h (by omega))⟩
          case round =>
            obtain ⟨k, hk, rfl, HA⟩ := hrel
            by_cases hlt : k < s.size
            · have HG := Lib.hid (bs_get s k hlt)
              have HNo := Lib.hid (show Lx.wordy s[k] = false → nameL (bs s) = false from fun e => by
                rw [HN.out]
                have : (bs s).all Lx.wordy = false := by
                  rw [← Bool.not_eq_true, List.all_eq_true]
                  intro h
                  have := h s[k] (List.mem_of_getElem? (bs_get s k hlt))
                  rw [e] at this; cases this
                rw [this]; simp)
              have HL := Lib.hid (fun w1 => refLetter_any s[k] w1)
              have HD2 := Lib.hid (fun w1 => refDigit_any s[k] w1)
              have HW := Lib.hid (show Lx.wordy s[k] = (Lx.letter s[k] || Lx.digit s[k]) from rfl)
              obtain ⟨bl, hbl⟩ : ∃ b, Lx.letter s[k] = b := ⟨_, rfl⟩
              obtain ⟨b2, hb2⟩ : ∃ b, Lx.digit s[k] = b := ⟨_, rfl⟩
              rw [hbl] at HL
              rw [hb2] at HD2
              rw [hbl, hb2] at HW
              clear hbl hb2
              have next : (bl || b2) = true → Hid (∀ j c, j < k + 1 → (bs s)[j]? = some c → Lx.wordy c = true) := fun hw => Lib.hid (fun j c hj hc => by
                rcases Nat.lt_or_ge j k with h | h
                · exact HA.out j c h hc
                · obtain rfl : j = k := by omega
                  rw [HG.out] at hc; obtain rfl := Option.some.inj hc
                  rw [HW.out, hw])
              cases bl
              · go_wp2_with fail
                refine (HL.out _).mono ?_
                rintro e w2 ⟨rfl, rfl⟩
                go_wp2_with fail
                refine (HD2.out _).mono ?_
                rintro e w2 ⟨rfl, rfl⟩
                cases b2
                · go_wp2_with fail
                  go_ret
                  exact ⟨ret_b (HNo.out HW.out).symm, HB1.out⟩
                · go_wp2_with fail
                  go_round
                  case rel => exact ⟨k + 1, by omega, by go_num, next rfl⟩
                  case measure => simp [intOf]; omega
              · go_wp2_with fail
                refine (HL.out _).mono ?_
                rintro e w2 ⟨rfl, rfl⟩
                go_wp2_with fail
                go_round
                case rel => exact ⟨k + 1, by omega, by go_num, next rfl⟩
                case measure => simp [intOf]; omega
            · have HY := Lib.hid (show nameL (bs s) = true by rw [HN.out, all_take HA.out (by omega)]; rfl)
              go_wp2_with fail
              go_ret
              exact ⟨ret_b HY.out.symm, HB1.out⟩
        · go_enter Tryz.func37, Tryz.ntmps37
          go_wp2_with fail
          refine (HD.out _).mono ?_
          rintro e w1 ⟨rfl, rfl⟩
          go_wp2_with fail
          refine HK.out.mono ?_
          rintro e w1 ⟨rfl, hb1⟩
          go_wp2_with fail
          go_ret
          exact ⟨ret_b (by rw [HN.out]; rfl), hb1⟩
      · go_enter Tryz.func37, Tryz.ntmps37
        go_wp2_with fail
        refine (HD.out _).mono ?_
        rintro e w1 ⟨rfl, rfl⟩
        go_wp2_with fail
        go_ret
        exact ⟨ret_b (by rw [HN.out]; rfl), Below.refl _ _⟩
end Go.Proofs.YtmjckdgomlppeaaGreatDoor
end
section
namespace Go.Proofs.YtmjckdgomlppeaaGreatDoor
open Go.RowKit Go.Shelf

theorem putValue_any (base g cap N : Nat) (l : List Int) (v : Va) (w : World) (hbuf : Buf w base g cap N l) (hv : v.ok = true) (hroom : N + sizeV v ≤ cap) :
    Calls Tryz.prog 110 #[.slice (some ⟨g, 0, none⟩) N cap, VV v.k v.n v.s] w (PutEnd base g cap (N + sizeV v) (l ++ putV v) w) := by
  have ht := ok_text hv
  have hk := ok_kind hv
  rw [sizeV_eq] at hroom
  obtain ⟨k, n, s⟩ := v
  rcases hk with h | h | h | h
  all_goals
    simp only at h
    subst h
    unfold Va.ok okV at hv
    simp at hv
    simp at hroom
    simp at ht
  · have e : N + sizeV ⟨0, n, s⟩ = N + 1 := by rw [sizeV_eq]; simp
    rw [e]
    exact putValue_null base g cap N l n s w hbuf hroom
  · have e : N + sizeV ⟨1, n, s⟩ = N + 1 + 1 := by rw [sizeV_eq]; simp
    have e2 : l ++ putV ⟨1, n, s⟩ = l ++ [1] ++ [n] := by simp [putV]
    rw [e, e2]
    exact putValue_bool base g cap N l n s w hbuf (by omega) hroom
  · have e : N + sizeV ⟨2, n, s⟩ = N + 1 + 7 := by rw [sizeV_eq]; simp
    have e2 : l ++ putV ⟨2, n, s⟩ = l ++ [2] ++ seven (n + 9007199254740992) := by simp [putV]
    rw [e, e2]
    exact putValue_int base g cap N l n s w hbuf (by omega) (by omega) hroom
  · have e : N + sizeV ⟨3, n, s⟩ = N + 1 + 1 + s.size := by rw [sizeV_eq]; simp; omega
    have e2 : l ++ putV ⟨3, n, s⟩ = l ++ [3] ++ [(s.size : Int)] ++ strB s := by simp [putV]
    rw [e, e2]
    obtain rfl : n = 0 := by omega
    exact putValue_text base g cap N l s w hbuf ht (by omega)

/-- A row's bytes. -/
def bodyR (r : List Va) : List Int := r.flatMap putV
def putR (r : List Va) : List Int := (r.length : Int) :: bodyR r
theorem bodyR_length (r : List Va) : (bodyR r).length = sumV r := by
  induction r with
  | nil => rfl
  | cons v r ih => simp [bodyR, sumV] at ih ⊢; rw [ih]; rfl
theorem bodyR_succ (r : List Va) (j : Nat) (h : j < r.length) : bodyR (r.take (j + 1)) = bodyR (r.take j) ++ putV r[j] := by
  unfold bodyR; rw [List.take_succ_eq_append_getElem h, List.flatMap_append]; simp
theorem sumV_take_le (r : List Va) (j : Nat) (h : j < r.length) : sumV (r.take j) + sizeV r[j] ≤ sumV r := by
  rw [← sumV_succ r j h]
  conv => rhs; rw [← List.take_append_drop (j + 1) r, sumV_append]
  omega

/-- The end of Put. -/
def PutREnd (w : World) (r : List Va) (e : Ending) (w' : World) : Prop :=
  ∃ g, e = .returned (.tuple #[.slice (some ⟨g, 0, none⟩) (1 + sumV r) (1 + sumV r), .int .i64 0]) ∧ Buf w' w.heap.size g (1 + sumV r) (1 + sumV r) (putR r) ∧ Below w.heap.size w w'

set_option maxRecDepth 100000 in
set_option maxHeartbeats 2000000 in
theorem put_ok (A : Option Addr) (c : Nat) (r : List Va) (w : World) (h : RowAt w A r) (hf : Fine r) (hok : okR r = true) :
    Calls Tryz.prog 93 #[.slice A r.length c] w (PutREnd w r) := by
  obtain ⟨h32, hall⟩ := okR_parts hok
  have HA := Lib.hid hall
  have HK := Lib.hid (rowCheck_b true A c r w h hf (by omega) hok)
  have hsum := sumV_le r hall
  obtain ⟨i0, hi, hz0, hz1, hz2⟩ := info_parts info_byte
  clear hall
  have HO := Lib.hid hok
  clear hok
  go_enter Tryz.func93, Tryz.ntmps93
  go_wp2_with fail
  refine HK.out.mono ?_
  rintro e w1 ⟨rfl, hb1⟩
  have hr1 := h.kept hb1
  go_wp2_with fail
  refine (size_any A c r w1 hr1 hf HO.out).mono ?_
  rintro e w2 ⟨rfl, hb2⟩
  have hB2 := bt hb1 hb2
  have hs2 := hB2.size
  generalize hS : sumV r = S at hsum
  go_wp2_with (at_make; refine wpList_make_own _ rfl _ _ 49 rfl w.heap.size 5 i0 _ 1 Tryz.underlying49 hi hz0 hz1 _ _ _ (1 + S) rfl rfl ?b0 ?b1 ?b2 ?b3 ?_)
  case b0 => simp
  case b1 => rw [hz2]; omega
  case b2 => simp [maxLen]; omega
  case b3 => exact hs2
  intro w3 hown hg
  have hB3 := hB2.grown hg hs2 (fun k hk => by cases hk)
  have hbuf : Buf w3 w.heap.size w2.heap.size (1 + S) 0 [] := ⟨rfl, hown⟩
  generalize w2.heap.size = g at hbuf ⊢
  have HS := Lib.hid hS
  have HB := Lib.hid hbuf
  clear hown hg hr1 hb1 hb2 hB2 hs2 hS hbuf
  go_wp2_with (at_builtin; refine wpList_push rfl (.tmp 16) (.tmp 20) rfl w.heap.size g (1 + S) 0 [] (r.length : Int) _ rfl HB.out _ rfl rfl ?c1 ?_)
  case c1 => omega
  intro w4 hb4 he4 hB4 hz4
  have HB4 := Lib.hid hb4
  have HW4 := Lib.hid (hB3.trans hB4)
  clear hb4 he4 hB4 hz4 hB3
  go_wp2_with fail
  go_loopw [5, 24] (fun v i wr => ∃ j N : Nat, j ≤ r.length ∧ i = .int .i64 j ∧ v = .slice (some ⟨g, 0, none⟩) N (1 + S) ∧ Hid (N = 1 + sumV (r.take j)) ∧ Hid (Buf wr w.heap.size g (1 + S) N ((r.length : Int) :: bodyR (r.take j))) ∧ Below w.heap.size w wr) (fun _ i _ => r.length - (intOf i).toNat)
  case atStart => exact ⟨0, 1, Nat.zero_le _, rfl, rfl, Lib.hid (by simp [sumV]), Lib.hid (by simpa [bodyR] using HB4.out), HW4.out⟩
  case round =>
    obtain ⟨j, N, hj, rfl, rfl, HN, HBj, hB⟩ := hrel
    have hr := h.kept hB
    by_cases hlt : j < r.length
    · obtain ⟨b, off, rfl, hb, c0, c1, c2⟩ := hr.at hlt
      have HV := Lib.hid (HA.out r[j] (List.getElem_mem hlt))
      have HX := Lib.hid (bodyR_succ r j hlt)
      have HX2 := Lib.hid (sumV_succ r j hlt)
      have HR := Lib.hid (show N + sizeV r[j] ≤ 1 + S by have := sumV_take_le r j hlt; rw [HN.out, ← HS.out]; omega)
      generalize r[j] = v at c0 c1 c2 HV HX HX2 HR
      clear hr
      go_wp2_with fail
      refine (putValue_any w.heap.size g (1 + S) N _ v _ (HBj.out.alloc _) HV.out HR.out).mono ?_
      rintro e w5 ⟨rfl, hb5, hB5⟩
      have HB5 := Lib.hid hb5
      have HW5 := Lib.hid ((hB.alloc hB.size _).trans hB5)
      clear hb5 hB5
      generalize hq : N + sizeV v = q at HB5 ⊢
      have HQ := Lib.hid hq
      clear hq
      go_wp2_with fail
      go_roundw
      case rel => exact ⟨j + 1, q, by omega, by go_num, rfl, Lib.hid (by rw [← HQ.out, HX2.out, HN.out]; omega), Lib.hid (by rw [HX.out]; simpa using HB5.out), HW5.out⟩
      case measure => simp [intOf]; omega
    · obtain rfl : j = r.length := by omega
      have eN : N = 1 + S := by rw [HN.out, List.take_length, HS.out]
      subst eN
      go_wp2_with fail
      go_ret2
      have hbj := HBj.out
      rw [List.take_length] at hbj
      refine ⟨g, ?_, ?_, hB⟩
      · simp [HS.out]
      · rw [HS.out]; exact hbj

set_option maxHeartbeats 400000 in
theorem put_no (A : Option Addr) (c : Nat) (r : List Va) (w : World) (h : RowAt w A r) (hf : Fine r) (hl : r.length ≤ 9223372036854775807) (hok : okR r = false) :
    Calls Tryz.prog 93 #[.slice A r.length c] w fun e w' => e = .returned (.tuple #[.slice none 0 0, .int .i64 20]) ∧ Below w.heap.size w w' := by
  have HK := Lib.hid (rowCheck_b false A c r w h hf hl hok)
  clear hok h hf
  go_enter Tryz.func93, Tryz.ntmps93
  go_wp2_with fail
  refine HK.out.mono ?_
  rintro e w1 ⟨rfl, hb1⟩
  go_wp2_with fail
  go_ret2
  exact ⟨rfl, hb1⟩

end Go.Proofs.YtmjckdgomlppeaaGreatDoor
end
section
namespace Go.Proofs.YtmjckdgomlppeaaGreatDoor
open Go.RowKit Go.Shelf

theorem valueSize_odd (k : Int) (n : Int) (w : World) (hk : 4 ≤ k) :
    Calls Tryz.prog 104 #[.int .i64 k, .int .i64 n] w fun e w' => e = .returned (.int .i64 0) ∧ w = w' := by
  have h0 : k ≠ 0 := by omega
  have h1 : k ≠ 1 := by omega
  have h2 : k ≠ 2 := by omega
  have h3 : k ≠ 3 := by omega
  go_enter Tryz.func104, Tryz.ntmps104
  go_wp2_with fail
  go_ret
  exact ⟨rfl, rfl⟩

end Go.Proofs.YtmjckdgomlppeaaGreatDoor
end
section
namespace Go.Proofs.YtmjckdgomlppeaaGreatDoor
open Go.RowKit Go.Shelf

theorem check_b (b : Bool) (v : Va) (w : World) (hs : v.s.size ≤ 9223372036854775807) (h : v.ok = b) :
    Calls Tryz.prog 67 #[VV v.k v.n v.s] w fun e w' => e = .returned (.int .i64 (if b then 0 else 10)) ∧ Below w.heap.size w w' := by
  have := check_any v.k v.n v.s w hs
  rw [show okV v.k v.n v.s = b from h] at this
  exact this

/-- The value that bytes begin with, if it may be. -/
def keepOk (v : Va) (n : Nat) : Option (Va × Nat) := if v.ok then some (v, n) else none
def getV : List Int → Option (Va × Nat)
  | [] => none
  | k :: t =>
    if k = 0 then some (nullA, 1)
    else if k = 1 then (match t with | [] => none | x :: _ => keepOk ⟨1, x, ⟨#[]⟩⟩ 2)
    else if k = 2 then (if t.length < 7 then none else keepOk ⟨2, num (t.take 7) - 9007199254740992, ⟨#[]⟩⟩ 8)
    else if k = 3 then (match t with | [] => none | x :: u => if u.length < x.toNat then none else keepOk ⟨3, 0, strOfNums (u.take x.toNat)⟩ (2 + x.toNat))
    else none
def gotV : Option (Va × Nat) → Array Value
  | some (v, n) => #[VV v.k v.n v.s, .int .i64 n, .bool true]
  | none => #[VV 0 0 ⟨#[]⟩, .int .i64 0, .bool false]
theorem got_keep (v : Va) (n : Nat) : gotV (keepOk v n) = if v.ok then #[VV v.k v.n v.s, .int .i64 n, .bool true] else #[VV 0 0 ⟨#[]⟩, .int .i64 0, .bool false] := by
  unfold keepOk; cases v.ok <;> rfl
theorem empty_small : (⟨#[]⟩ : ByteArray).size ≤ 9223372036854775807 := by decide
theorem cellAt {w w' : World} (hb : Below w.heap.size w w') {p : Addr} {v : Value} (h : w.cell? p = some v) : w'.cell? p = some v := cell_kept hb h

end Go.Proofs.YtmjckdgomlppeaaGreatDoor
end
section
namespace Go.Proofs.YtmjckdgomlppeaaGreatDoor
open Go.RowKit Go.Shelf

theorem keep_some {v v' : Va} {n n' : Nat} (h : keepOk v n = some (v', n')) : v' = v ∧ n' = n ∧ v.ok = true := by
  unfold keepOk at h
  cases hv : v.ok
  · simp [hv] at h
  · simp [hv] at h; exact ⟨h.1.symm, h.2.symm, rfl⟩

theorem getV_some {bs : List Int} {v : Va} {n : Nat} (h : getV bs = some (v, n)) : 1 ≤ n ∧ n ≤ bs.length ∧ v.ok = true := by
  cases bs with
  | nil => simp [getV] at h
  | cons k t =>
    unfold getV at h
    simp only at h
    split at h
    · simp at h; obtain ⟨rfl, rfl⟩ := h; exact ⟨by omega, by simp, by decide +kernel⟩
    · split at h
      · cases t with
        | nil => simp at h
        | cons x u => obtain ⟨rfl, rfl, ho⟩ := keep_some h; exact ⟨by omega, by simp, ho⟩
      · split at h
        · split at h
          · simp at h
          · obtain ⟨rfl, rfl, ho⟩ := keep_some h; exact ⟨by omega, by simp; omega, ho⟩
        · split at h
          · cases t with
            | nil => simp at h
            | cons x u =>
              simp only at h
              split at h
              · simp at h
              · obtain ⟨rfl, rfl, ho⟩ := keep_some h; exact ⟨by omega, by simp; omega, ho⟩
          · simp at h

/-- Some values, one behind another; a row. -/
def getR : Nat → List Int → Option (List Va × Nat)
  | 0, _ => some ([], 0)
  | n + 1, bs => match getV bs with
    | none => none
    | some (v, k) => match getR n (bs.drop k) with
      | none => none
      | some (r, m) => some (v :: r, k + m)
def getRow : List Int → Option (List Va × Nat)
  | [] => none
  | k :: t => if 32 < k then none else match getR k.toNat t with
    | none => none
    | some (r, m) => some (r, 1 + m)

/-- What is left to be got, behind what has been. -/
def after (r0 : List Va) (S : Nat) : Option (List Va × Nat) → Option (List Va × Nat)
  | none => none
  | some (r, m) => some (r0 ++ r, S + m)
theorem after_none {r0 : List Va} {S n : Nat} {bs : List Int} (h : getV bs = none) : after r0 S (getR (n + 1) bs) = none := by
  simp [getR, h, after]
theorem after_some {r0 : List Va} {S n k : Nat} {v : Va} {bs : List Int} (h : getV bs = some (v, k)) : after r0 S (getR (n + 1) bs) = after (r0 ++ [v]) (S + k) (getR n (bs.drop k)) := by
  simp only [getR, h]
  cases getR n (bs.drop k) with
  | none => rfl
  | some p => obtain ⟨r, m⟩ := p; simp [after]; omega

/-- A row of the call's own, of a known capacity. -/
structure RBuf (w : World) (base g cap N : Nat) (r : List Va) : Prop where
  len : r.length = N
  own : w.ownsRow base 69 3 (.slice (some ⟨g, 0, none⟩) N cap) N (rowList r)
theorem RBuf.lt {w : World} {base g cap N : Nat} {r : List Va} (h : RBuf w base g cap N r) : base ≤ g ∧ g < w.heap.size := World.ownsRow.lt h.own g rfl
theorem RBuf.alloc {w : World} {base g cap N : Nat} {r : List Va} (h : RBuf w base g cap N r) (o : Obj) : RBuf (w.alloc o) base g cap N r := ⟨h.len, h.own.alloc o⟩
theorem RBuf.kept {w w' : World} {base g cap N : Nat} {r : List Va} (h : RBuf w base g cap N r) (hb : Below w.heap.size w w') : RBuf w' base g cap N r := by
  refine ⟨h.len, h.own.1, ?_⟩
  rcases h.own.2 with ⟨hv, _⟩ | ⟨g1, cap1, cur, hv, hbase, hg, hrest⟩
  · cases hv
  · refine .inr ⟨g1, cap1, cur, hv, hbase, ?_, hrest⟩
    rw [hb.block g1 ?_]
    · exact hg
    · cases hv; exact h.lt.2
theorem RBuf.row {w : World} {base g cap N : Nat} {r : List Va} (h : RBuf w base g cap N r) : RowAt w (some ⟨g, 0, none⟩) r := by
  obtain ⟨rfl, ho⟩ := h
  exact row_of_owns ho

theorem wpList_pushV {ops : Array Oper} {rest : List Oper} {o : Oper} {a : Act} {Q : Exit → Act → World → Prop} (hgd : o.guard = none) (s x : Operand)
    (ho : o.op = .call { callee := .builtin .append, args := #[s, x], argTypes := #[38, 38] })
    (base g cap N : Nat) (r : List Va) (v : Va) (W : World) (hs : a.eval s = .slice (some ⟨g, 0, none⟩) N cap) (hbuf : RBuf W base g cap N r) (nb : Nat) (hx : a.eval x = .slice (some ⟨nb, 0, none⟩) 1 1) (hnb : W.heap.size = nb) (hroom : N + 1 ≤ cap)
    (h : ∀ w', RBuf w' base g cap (N + 1) (r ++ [v]) → Below base W w' → W.heap.size < w'.heap.size → wpList Tryz.prog ops Q rest (a.put o.dst (.slice (some ⟨g, 0, none⟩) (N + 1) cap)) w') :
    wpList Tryz.prog ops Q (o :: rest) a (W.alloc (.cells #[.int .i64 v.k, .int .i64 v.n, .string v.s] 69)) := by
  subst hnb
  obtain ⟨i0, hi, hz0, hz1, hz2⟩ := info_parts info_val
  have hlt := hbuf.lt
  refine wpList_append_fits _ hgd s x 38 ho base 69 i0 3 Tryz.underlying38 hi hz1 g N cap (rowList r) hs (hbuf.own.alloc _) ⟨W.heap.size, 0, none⟩ 1 1 v.cells hx rfl ?_ ?_ hroom ?_
  · exact World.news_of_block (heap_alloc_new W _)
  · intro u hu; simp [Va.cells] at hu; rcases hu with rfl | rfl | rfl <;> rfl
  · intro w' hown hg
    refine h w' ⟨by simp [hbuf.len], ?_⟩ ?_ ?_
    · rw [rowList_append]; simpa [rowList] using hown
    · exact ((Below.refl base W).alloc (Nat.le_of_lt (Nat.lt_of_le_of_lt hlt.1 hlt.2)) _).grown hg (by simp; omega) (fun k hk => by cases hk; exact hlt.1)
    · have := hg.size; simp at this; omega

theorem drop_one (K : Nat) (t : List Int) (S : Nat) (h : 1 ≤ S) : ((K : Int) :: t).drop S = t.drop (S - 1) := by
  obtain ⟨S', rfl⟩ : ∃ S', S = S' + 1 := ⟨S - 1, by omega⟩
  rfl

/-- The ends of Get. -/
def GetEnd (w : World) (o : Option (List Va × Nat)) (e : Ending) (w' : World) : Prop :=
  Below w.heap.size w w' ∧ match o with
  | some (r, n) => ∃ A c, e = .returned (.tuple #[.slice A r.length c, .int .i64 n, .int .i64 0]) ∧ RowAt w' A r
  | none => e = .returned (.tuple #[.slice none 0 0, .int .i64 0, .int .i64 20])

/-- The same, and what holds the row are values. -/
def GetEndT (w : World) (o : Option (List Va × Nat)) (e : Ending) (w' : World) : Prop :=
  Below w.heap.size w w' ∧ match o with
  | some (r, n) => ∃ A c, e = .returned (.tuple #[.slice A r.length c, .int .i64 n, .int .i64 0]) ∧ RowAt w' A r ∧ (A = none → c = 0) ∧ ∀ b off, A = some ⟨b, off, none⟩ → ∃ cs fr, w'.heap[b]? = some (.cells cs 69 fr)
  | none => e = .returned (.tuple #[.slice none 0 0, .int .i64 0, .int .i64 20])
theorem GetEndT.plain {w : World} {o : Option (List Va × Nat)} {e : Ending} {w' : World} (h : GetEndT w o e w') : GetEnd w o e w' := by
  refine ⟨h.1, ?_⟩
  have h2 := h.2
  cases o with
  | none => exact h2
  | some q => obtain ⟨A, c, he, hr, _⟩ := h2; exact ⟨A, c, he, hr⟩
theorem RBuf.typed {w : World} {base g cap N : Nat} {r : List Va} (h : RBuf w base g cap N r) : ∀ b off, (some ⟨g, 0, none⟩ : Option Addr) = some ⟨b, off, none⟩ → ∃ cs fr, w.heap[b]? = some (.cells cs 69 fr) := by
  intro b off hb
  cases hb
  rcases h.own.2 with ⟨hv, _⟩ | ⟨g', cap', cur, hv, _, hg, _⟩
  · cases hv
  · cases hv; exact ⟨cur, _, hg⟩

end Go.Proofs.YtmjckdgomlppeaaGreatDoor
end
section
namespace Go.Proofs.YtmjckdgomlppeaaGreatDoor
open Go.RowKit

theorem seven_byte (m : Int) : ∀ x ∈ seven m, 0 ≤ x ∧ x < 256 := by
  intro x hx
  simp [seven, byteAt] at hx
  omega
theorem num_seven (m : Int) (h0 : 0 ≤ m) (h1 : m < 72057594037927936) : num (seven m) = m := by
  simp [num, seven, byteAt]
  omega
theorem strOfNums_strB (s : ByteArray) : strOfNums (strB s) = s := by
  apply ByteArray.ext
  apply Array.toList_inj.1
  rw [strOfNums_data]
  unfold strB
  rw [List.map_map]
  conv => rhs; rw [← List.map_id s.data.toList]
  apply List.map_congr_left
  intro b _
  simp
theorem strB_byte (s : ByteArray) : ∀ x ∈ strB s, 0 ≤ x ∧ x < 256 := by
  intro x hx
  simp only [strB, List.mem_map] at hx
  obtain ⟨b, _, rfl⟩ := hx
  have := b.toNat_lt
  omega

theorem ok_parts {k n : Int} {s : ByteArray} (h : (⟨k, n, s⟩ : Va).ok = true) : (k = 0 ∧ n = 0 ∧ s = ⟨#[]⟩) ∨ (k = 1 ∧ (n = 0 ∨ n = 1) ∧ s = ⟨#[]⟩) ∨ (k = 2 ∧ -9007199254740991 ≤ n ∧ n ≤ 9007199254740991 ∧ s = ⟨#[]⟩) ∨ (k = 3 ∧ n = 0 ∧ s.size ≤ 64) := by
  have hk := ok_kind h
  have ht := ok_text h
  have e : ∀ t : ByteArray, t.toList = [] → t = ⟨#[]⟩ := by
    intro t ht
    rw [ByteArray.toList_eq] at ht
    exact ByteArray.ext (Array.toList_inj.1 ht)
  simp only at hk ht
  unfold Va.ok okV at h
  rcases hk with rfl | rfl | rfl | rfl
  · simp at h; exact .inl ⟨rfl, by omega, e _ h.2⟩
  · simp at h; exact .inr (.inl ⟨rfl, by omega, e _ h.2⟩)
  · simp at h; exact .inr (.inr (.inl ⟨rfl, by omega, by omega, e _ h.2⟩))
  · simp at h; exact .inr (.inr (.inr ⟨rfl, by omega, ht⟩))

theorem getV_putV (v : Va) (h : v.ok = true) (t : List Int) : getV (putV v ++ t) = some (v, sizeV v) := by
  obtain ⟨k, n, s⟩ := v
  rw [sizeV_eq]
  rcases ok_parts h with ⟨rfl, rfl, rfl⟩ | ⟨rfl, hn, rfl⟩ | ⟨rfl, h1, h2, rfl⟩ | ⟨rfl, rfl, hs⟩
  · simp [putV, getV, nullA]
  · simp [putV, getV, keepOk, h]
  · have e := num_seven (n + 9007199254740992) (by omega) (by omega)
    have hl : (seven (n + 9007199254740992)).length = 7 := rfl
    have et : (seven (n + 9007199254740992) ++ t).take 7 = seven (n + 9007199254740992) := by
      rw [List.take_append_of_le_length (by omega), List.take_of_length_le (by omega)]
    simp only [putV, show ¬ ((2 : Int) = 1) by decide, if_false, if_true, List.cons_append, getV, show ¬ ((2 : Int) = 0) by decide, show ¬ (seven (n + 9007199254740992) ++ t).length < 7 by simp [hl], et, e]
    rw [show n + 9007199254740992 - 9007199254740992 = n by omega]
    simp [keepOk, h]
  · have hl : (strB s).length = s.size := by simp [strB]
    have et : (strB s ++ t).take s.size = strB s := by
      rw [List.take_append_of_le_length (by omega), List.take_of_length_le (by omega)]
    simp only [putV, show ¬ ((3 : Int) = 1) by decide, show ¬ ((3 : Int) = 2) by decide, if_false, if_true, List.cons_append, getV, show ¬ ((3 : Int) = 0) by decide, Int.toNat_natCast, show ¬ (strB s ++ t).length < s.size by simp [hl], et, strOfNums_strB]
    simp [keepOk, h]

theorem size_putV' (v : Va) : (putV v).length = sizeV v := rfl
theorem getR_bodyR : ∀ (r : List Va), (∀ v ∈ r, v.ok = true) → ∀ t, getR r.length (bodyR r ++ t) = some (r, sumV r)
  | [], _, t => rfl
  | v :: r, h, t => by
    have h1 := getV_putV v (h v (by simp)) (bodyR r ++ t)
    have h2 := getR_bodyR r (fun u hu => h u (by simp [hu])) t
    have e : bodyR (v :: r) ++ t = putV v ++ (bodyR r ++ t) := by simp [bodyR]
    have ed : (putV v ++ (bodyR r ++ t)).drop (sizeV v) = bodyR r ++ t := by
      rw [← size_putV', List.drop_append_of_le_length (Nat.le_refl _), List.drop_eq_nil_of_le (Nat.le_refl _)]; rfl
    rw [e, List.length_cons, getR, h1]
    simp only
    rw [ed, h2]
    rfl
theorem getRow_putR (r : List Va) (h : okR r = true) (t : List Int) : getRow (putR r ++ t) = some (r, 1 + sumV r) := by
  obtain ⟨h32, hall⟩ := okR_parts h
  simp only [putR, List.cons_append, getRow, show ¬ (32 : Int) < r.length by omega, if_false, Int.toNat_natCast]
  rw [getR_bodyR r hall t]
theorem putV_byte (v : Va) (h : v.ok = true) : ∀ x ∈ putV v, 0 ≤ x ∧ x < 256 := by
  obtain ⟨k, n, s⟩ := v
  rcases ok_parts h with ⟨rfl, rfl, rfl⟩ | ⟨rfl, hn, rfl⟩ | ⟨rfl, h1, h2, rfl⟩ | ⟨rfl, rfl, hs⟩
  · simp [putV]
  · intro x hx; simp [putV] at hx; omega
  · intro x hx
    simp only [putV, show ¬ ((2 : Int) = 1) by decide, if_false, if_true, List.mem_cons] at hx
    rcases hx with rfl | hx
    · omega
    · exact seven_byte _ x hx
  · intro x hx
    simp only [putV, show ¬ ((3 : Int) = 1) by decide, show ¬ ((3 : Int) = 2) by decide, if_false, if_true, List.mem_cons] at hx
    rcases hx with rfl | rfl | hx
    · omega
    · omega
    · exact strB_byte s x hx
theorem putR_byte (r : List Va) (h : okR r = true) : ∀ x ∈ putR r, 0 ≤ x ∧ x < 256 := by
  obtain ⟨h32, hall⟩ := okR_parts h
  intro x hx
  simp only [putR, bodyR, List.mem_cons, List.mem_flatMap] at hx
  rcases hx with rfl | ⟨v, hv, hx⟩
  · omega
  · exact putV_byte v (hall v hv) x hx
theorem putR_length (r : List Va) : (putR r).length = 1 + sumV r := by simp [putR, bodyR_length]; omega

end Go.Proofs.YtmjckdgomlppeaaGreatDoor
end
section
namespace Go.Proofs.YtmjckdgomlppeaaGreatDoor
open Go.RowKit

theorem seven_num (l : List Int) (h7 : l.length = 7) (hb : ∀ x ∈ l, 0 ≤ x ∧ x < 256) : seven (num l) = l := by
  match l, h7 with
  | [a, b, c, d, e, f, g], _ =>
    have ha := hb a (by simp)
    have hb' := hb b (by simp)
    have hc := hb c (by simp)
    have hd := hb d (by simp)
    have he := hb e (by simp)
    have hf := hb f (by simp)
    have hg := hb g (by simp)
    simp only [num, List.foldl, seven, byteAt]
    simp
    omega
theorem strB_strOfNums (l : List Int) (hb : ∀ x ∈ l, 0 ≤ x ∧ x < 256) : strB (strOfNums l) = l := by
  unfold strB
  rw [strOfNums_data, List.map_map]
  conv => rhs; rw [← List.map_id l]
  apply List.map_congr_left
  intro x hx
  obtain ⟨h0, h1⟩ := hb x hx
  obtain ⟨n, rfl⟩ := Int.eq_ofNat_of_zero_le h0
  simp
  omega
theorem strOfNums_size (l : List Int) : (strOfNums l).size = l.length := by
  show (strOfNums l).data.size = _
  rw [← Array.length_toList, strOfNums_data]; simp

theorem putV_getV {bs : List Int} {v : Va} {n : Nat} (hb : ∀ x ∈ bs, 0 ≤ x ∧ x < 256) (h : getV bs = some (v, n)) : putV v = bs.take n := by
  cases bs with
  | nil => simp [getV] at h
  | cons k t =>
    by_cases e0 : k = 0
    · subst e0
      simp [getV] at h
      obtain ⟨rfl, rfl⟩ := h
      rfl
    by_cases e1 : k = 1
    · subst e1
      cases t with
      | nil => simp [getV] at h
      | cons x u =>
        simp [getV] at h
        obtain ⟨rfl, rfl, _⟩ := keep_some h
        simp [putV]
    by_cases e2 : k = 2
    · subst e2
      by_cases h7 : t.length < 7
      · simp [getV, h7] at h
      · simp only [getV, h7, if_false] at h
        simp at h
        obtain ⟨rfl, rfl, _⟩ := keep_some h
        have hs := seven_num (t.take 7) (by simp; omega) (fun x hx => hb x (by simp [List.mem_of_mem_take hx]))
        simp [putV, hs]
    by_cases e3 : k = 3
    · subst e3
      cases t with
      | nil => simp [getV] at h
      | cons x u =>
        obtain ⟨hx0, hx1⟩ := hb x (by simp)
        obtain ⟨X, rfl⟩ := Int.eq_ofNat_of_zero_le hx0
        by_cases hu : u.length < X
        · simp [getV, hu] at h
        · simp only [getV, Int.toNat_natCast, hu, if_false] at h
          simp at h
          obtain ⟨rfl, rfl, _⟩ := keep_some h
          have hs := strB_strOfNums (u.take X) (fun y hy => hb y (by simp [List.mem_of_mem_take hy]))
          have hz : (strOfNums (u.take X)).size = X := by rw [strOfNums_size]; simp; omega
          simp only [putV]
          simp [hs, hz]
          rw [show 2 + X = X + 2 by omega]
          simp
    simp [getV, e0, e1, e2, e3] at h

theorem getR_some : ∀ (k : Nat) (bs : List Int) (r : List Va) (S : Nat), (∀ x ∈ bs, 0 ≤ x ∧ x < 256) → getR k bs = some (r, S) → r.length = k ∧ bodyR r = bs.take S ∧ S ≤ bs.length ∧ ∀ v ∈ r, v.ok = true
  | 0, bs, r, S, _, h => by
    simp [getR] at h
    obtain ⟨rfl, rfl⟩ := h
    simp [bodyR]
  | k + 1, bs, r, S, hb, h => by
    rw [getR] at h
    cases hv : getV bs with
    | none => rw [hv] at h; cases h
    | some p =>
      obtain ⟨v, n⟩ := p
      rw [hv] at h
      simp only at h
      obtain ⟨hn1, hn2, hok⟩ := getV_some hv
      have hp := putV_getV hb hv
      cases hr : getR k (bs.drop n) with
      | none => rw [hr] at h; simp at h
      | some q =>
        obtain ⟨r', S'⟩ := q
        rw [hr] at h
        simp at h
        obtain ⟨rfl, rfl⟩ := h
        obtain ⟨h1, h2, h3, h4⟩ := getR_some k (bs.drop n) r' S' (fun x hx => hb x (List.mem_of_mem_drop hx)) hr
        simp at h3
        refine ⟨by simp [h1], ?_, by omega, ?_⟩
        · show putV v ++ bodyR r' = _
          rw [hp, h2, List.take_add]
        · intro u hu
          rcases List.mem_cons.1 hu with rfl | hu
          · exact hok
          · exact h4 u hu
theorem getRow_some {bs : List Int} {r : List Va} {n : Nat} (hb : ∀ x ∈ bs, 0 ≤ x ∧ x < 256) (h : getRow bs = some (r, n)) : okR r = true ∧ putR r = bs.take n ∧ n ≤ bs.length ∧ 1 ≤ n := by
  cases bs with
  | nil => simp [getRow] at h
  | cons k t =>
    obtain ⟨k0, k1⟩ := hb k (by simp)
    obtain ⟨K, rfl⟩ := Int.eq_ofNat_of_zero_le k0
    by_cases hk : (32 : Int) < K
    · simp [getRow, hk] at h
    · simp only [getRow, hk, if_false, Int.toNat_natCast] at h
      cases hr : getR K t with
      | none => rw [hr] at h; cases h
      | some q =>
        obtain ⟨r', S⟩ := q
        rw [hr] at h
        simp at h
        obtain ⟨rfl, rfl⟩ := h
        obtain ⟨h1, h2, h3, h4⟩ := getR_some K t r' S (fun x hx => hb x (by simp [hx])) hr
        refine ⟨?_, ?_, by simp; omega, by omega⟩
        · simp only [okR, Bool.and_eq_true, decide_eq_true_eq, Bool.not_eq_true']
          refine ⟨by omega, ?_⟩
          rw [List.any_eq_false]
          intro v hv
          simp [badA, h4 v hv]
        · rw [Nat.add_comm 1 S, List.take_succ_cons, putR, h1, h2]
end Go.Proofs.YtmjckdgomlppeaaGreatDoor
end
section
namespace Go.Proofs.YtmjckdgomlppeaaGreatDoor
open Go.RowKit

def sizeR (r : List Va) : Nat := 1 + sumV r
theorem sizeR_len (r : List Va) : (putR r).length = sizeR r := putR_length r
def bodyP (rs : List (List Va)) : List Int := rs.flatMap putR
def lenP (rs : List (List Va)) : Nat := (bodyP rs).length
theorem bodyP_cons (r : List Va) (rs : List (List Va)) : bodyP (r :: rs) = putR r ++ bodyP rs := rfl
theorem lenP_cons (r : List Va) (rs : List (List Va)) : lenP (r :: rs) = sizeR r + lenP rs := by simp [lenP, bodyP_cons, sizeR_len]
/-- Where rows begin, from a place on; these places, as they stand at a page's end. -/
def starts : Nat → List (List Va) → List Nat
  | _, [] => []
  | e, r :: rs => e :: starts (e + sizeR r) rs
def tailP : List Nat → List Int
  | [] => []
  | s :: ss => tailP ss ++ [((s / 256 : Nat) : Int), ((s % 256 : Nat) : Int)]
theorem starts_len (e : Nat) (rs : List (List Va)) : (starts e rs).length = rs.length := by
  induction rs generalizing e with
  | nil => rfl
  | cons r rs ih => simp [starts, ih]
theorem tailP_len (ss : List Nat) : (tailP ss).length = 2 * ss.length := by
  induction ss with
  | nil => rfl
  | cons s ss ih => simp [tailP, ih]; omega
theorem starts_le (e : Nat) (rs : List (List Va)) : ∀ s ∈ starts e rs, s ≤ e + lenP rs := by
  induction rs generalizing e with
  | nil => intro s hs; cases hs
  | cons r rs ih =>
    intro s hs
    rw [lenP_cons]
    rcases List.mem_cons.1 hs with rfl | hs
    · omega
    · have := ih _ s hs; omega
/-- A page's bytes, if its rows fit together. -/
def fitsP (rs : List (List Va)) : Bool := decide (rs.length ≤ 255) && decide (1 + lenP rs + 2 * rs.length ≤ 256)
def makeP (rs : List (List Va)) : List Int :=
  ((rs.length : Int) :: bodyP rs) ++ List.replicate (255 - 2 * rs.length - lenP rs) 0 ++ tailP (starts 1 rs)
def allOk (rs : List (List Va)) : Prop := ∀ r ∈ rs, okR r = true

/-- Where row i begins, by the page. -/
def placeP (p : List Int) (i : Nat) : Int := p.getD (254 - 2 * i) 0 * 256 + p.getD (255 - 2 * i) 0
def openL (p : List Int) (pl : Nat) : Nat → Nat → Nat → Option (List (List Va) × Nat)
  | _, 0, e => some ([], e)
  | i, k + 1, e => match getRow ((p.take pl).drop e) with
    | none => none
    | some (r, n) => if placeP p i = e then (match openL p pl (i + 1) k (e + n) with | none => none | some (rs, e') => some (r :: rs, e')) else none
def openP (p : List Int) : Option (List (List Va) × Nat) :=
  if p.length = 256 then
    (if 127 < (p.getD 0 0).toNat then none
     else match openL p (256 - 2 * (p.getD 0 0).toNat) 0 (p.getD 0 0).toNat 1 with
      | none => none
      | some (rs, e) => if ((p.take (256 - 2 * (p.getD 0 0).toNat)).drop e).any (fun x => x != 0) then none else some (rs, e))
  else none
def refL (p : List Int) : Nat → Nat → Option (List (List Va))
  | 0, _ => some []
  | k + 1, e => if 256 < e then none else match getRow (p.drop e) with
    | none => none
    | some (r, n) => (match refL p k (e + n) with | none => none | some rs => some (r :: rs))
def refP (p : List Int) : Option (List (List Va)) :=
  if p.length = 256 then
    (match refL p (p.getD 0 0).toNat 1 with
      | none => none
      | some rs => if fitsP rs = true ∧ makeP rs = p then some rs else none)
  else none

theorem take_two (p : List Int) (k : Nat) (h : k + 2 ≤ p.length) : p.take (k + 2) = p.take k ++ [p.getD k 0, p.getD (k + 1) 0] := by
  have e1 : p.getD k 0 = p[k] := by simp [List.getD, show k < p.length by omega]
  have e2 : p.getD (k + 1) 0 = p[k + 1] := by simp [List.getD, show k + 1 < p.length by omega]
  have h1 := List.take_succ_eq_append_getElem (l := p) (i := k + 1) (by omega)
  have h2 := List.take_succ_eq_append_getElem (l := p) (i := k) (by omega)
  rw [e1, e2, show k + 2 = k + 1 + 1 from rfl, h1, h2, List.append_assoc]
  rfl
theorem places_of (p : List Int) (hp : p.length = 256) (hb : ∀ x ∈ p, 0 ≤ x ∧ x < 256) : ∀ (ss : List Nat) (i : Nat), i + ss.length ≤ 128 → (∀ j s : Nat, ss[j]? = some s → placeP p (i + j) = (s : Int)) →
    (p.take (256 - 2 * i)).drop (256 - 2 * (i + ss.length)) = tailP ss
  | [], i, _, _ => by simp [tailP]
  | s :: ss, i, hl, h => by
    simp only [List.length_cons] at hl ⊢
    have h0 := h 0 s rfl
    have ih := places_of p hp hb ss (i + 1) (by omega) (fun j s' hs => by
      have := h (j + 1) s' (by simpa using hs)
      rw [show i + 1 + j = i + (j + 1) by omega]; exact this)
    have e1 : 256 - 2 * i = 254 - 2 * i + 2 := by omega
    have e2 : 256 - 2 * (i + 1) = 254 - 2 * i := by omega
    rw [e2, show i + 1 + ss.length = i + (ss.length + 1) by omega] at ih
    rw [e1, take_two p _ (by omega), tailP, ← ih, List.drop_append_of_le_length (by simp; omega)]
    congr 1
    have hx := hb (p.getD (254 - 2 * i) 0) (by simp [List.getD, show 254 - 2 * i < p.length by omega])
    have hy := hb (p.getD (254 - 2 * i + 1) 0) (by simp [List.getD, show 254 - 2 * i + 1 < p.length by omega])
    unfold placeP at h0
    rw [Nat.add_zero, show 255 - 2 * i = 254 - 2 * i + 1 by omega] at h0
    generalize p.getD (254 - 2 * i) 0 = a at hx h0 ⊢
    generalize p.getD (254 - 2 * i + 1) 0 = b at hy h0 ⊢
    have ea : a = ((s / 256 : Nat) : Int) := by omega
    have eb : b = ((s % 256 : Nat) : Int) := by omega
    rw [ea, eb]
theorem of_places (p : List Int) (hp : p.length = 256) : ∀ (ss : List Nat) (i : Nat), i + ss.length ≤ 128 → (p.take (256 - 2 * i)).drop (256 - 2 * (i + ss.length)) = tailP ss →
    ∀ j s : Nat, ss[j]? = some s → placeP p (i + j) = (s : Int)
  | [], i, _, _, j, s, h => by simp at h
  | s :: ss, i, hl, ht, j, s', h => by
    simp only [List.length_cons] at hl ht
    have e1 : 256 - 2 * i = 254 - 2 * i + 2 := by omega
    rw [e1, take_two p _ (by omega), tailP, List.drop_append_of_le_length (by simp; omega)] at ht
    obtain ⟨h1, h2⟩ := List.append_inj' ht (by simp)
    simp at h2
    cases j with
    | zero =>
      simp at h
      subst h
      unfold placeP
      rw [Nat.add_zero, show 255 - 2 * i = 254 - 2 * i + 1 by omega]
      rw [List.getD, List.getD, h2.1, h2.2]
      omega
    | succ j =>
      have := of_places p hp ss (i + 1) (by omega) (by
        rw [show 256 - 2 * (i + 1) = 254 - 2 * i by omega, show i + 1 + ss.length = i + (ss.length + 1) by omega]; exact h1) j s' (by simpa using h)
      rw [show i + (j + 1) = i + 1 + j by omega]; exact this

theorem openL_some (p : List Int) (pl : Nat) (hb : ∀ x ∈ p, 0 ≤ x ∧ x < 256) : ∀ (k i e : Nat) (rs : List (List Va)) (e' : Nat), e ≤ (p.take pl).length → openL p pl i k e = some (rs, e') →
    rs.length = k ∧ allOk rs ∧ (p.take pl).drop e = bodyP rs ++ (p.take pl).drop e' ∧ e' = e + lenP rs ∧ e' ≤ (p.take pl).length ∧ ∀ j s : Nat, (starts e rs)[j]? = some s → placeP p (i + j) = (s : Int)
  | 0, i, e, rs, e', he, h => by
    simp [openL] at h
    obtain ⟨rfl, rfl⟩ := h
    exact ⟨rfl, (fun r hr => by cases hr), by simp [bodyP], by simp [lenP, bodyP], he, fun j s hs => by simp [starts] at hs⟩
  | k + 1, i, e, rs, e', he, h => by
    rw [openL] at h
    cases hg : getRow ((p.take pl).drop e) with
    | none => rw [hg] at h; cases h
    | some q =>
      obtain ⟨r, n⟩ := q
      rw [hg] at h
      simp only at h
      obtain ⟨hok, hput, hn, hn1⟩ := getRow_some (fun x hx => hb x (List.mem_of_mem_take (List.mem_of_mem_drop hx))) hg
      by_cases hpl : placeP p i = e
      · rw [if_pos hpl] at h
        cases hr : openL p pl (i + 1) k (e + n) with
        | none => rw [hr] at h; cases h
        | some q2 =>
          obtain ⟨rs2, e2⟩ := q2
          rw [hr] at h
          simp at h
          obtain ⟨rfl, rfl⟩ := h
          have hsz : n = sizeR r := by
            rw [← sizeR_len, hput, List.length_take]; omega
          rw [List.length_drop] at hn
          obtain ⟨h1, h2, h3, h4, h5, h6⟩ := openL_some p pl hb k (i + 1) (e + n) rs2 e2 (by omega) hr
          refine ⟨by simp [h1], ?_, ?_, by rw [lenP_cons]; omega, h5, ?_⟩
          · intro x hx
            rcases List.mem_cons.1 hx with rfl | hx
            · exact hok
            · exact h2 x hx
          · rw [bodyP_cons, List.append_assoc, ← h3, hput, ← List.drop_drop, List.take_append_drop]
          · intro j s hs
            cases j with
            | zero => simp [starts] at hs; subst hs; simpa using hpl
            | succ j =>
              simp [starts] at hs
              rw [← hsz] at hs
              have := h6 j s hs
              rw [show i + (j + 1) = i + 1 + j by omega]; exact this
      · rw [if_neg hpl] at h; cases h
theorem openL_make (p : List Int) (pl : Nat) : ∀ (rs : List (List Va)) (i e : Nat) (t : List Int), allOk rs → (p.take pl).drop e = bodyP rs ++ t → (∀ j s : Nat, (starts e rs)[j]? = some s → placeP p (i + j) = (s : Int)) →
    openL p pl i rs.length e = some (rs, e + lenP rs)
  | [], i, e, t, _, _, _ => by simp [openL, lenP, bodyP]
  | r :: rs, i, e, t, hok, hd, hpl => by
    rw [List.length_cons, openL]
    rw [bodyP_cons, List.append_assoc] at hd
    rw [hd, getRow_putR r (hok r (by simp)) (bodyP rs ++ t)]
    simp only
    have h0 := hpl 0 e rfl
    rw [Nat.add_zero] at h0
    rw [if_pos h0]
    have hd2 : (p.take pl).drop (e + sizeR r) = bodyP rs ++ t := by
      rw [← List.drop_drop, hd, List.drop_append_of_le_length (by rw [sizeR_len]; exact Nat.le_refl _), List.drop_eq_nil_of_le (by rw [sizeR_len]; exact Nat.le_refl _)]; rfl
    have := openL_make p pl rs (i + 1) (e + sizeR r) t (fun x hx => hok x (by simp [hx])) hd2 (fun j s hs => by
      have := hpl (j + 1) s (by simpa [starts] using hs)
      rw [show i + 1 + j = i + (j + 1) by omega]; exact this)
    rw [show e + (1 + sumV r) = e + sizeR r from rfl, this, lenP_cons]
    simp only
    rw [Nat.add_assoc]
theorem refL_make (p : List Int) : ∀ (rs : List (List Va)) (e : Nat) (t : List Int), allOk rs → p.drop e = bodyP rs ++ t → e + lenP rs ≤ 256 → refL p rs.length e = some rs
  | [], e, t, _, _, _ => rfl
  | r :: rs, e, t, hok, hd, hle => by
    rw [lenP_cons] at hle
    rw [List.length_cons, refL, if_neg (by omega)]
    rw [bodyP_cons, List.append_assoc] at hd
    rw [hd, getRow_putR r (hok r (by simp)) (bodyP rs ++ t)]
    simp only
    have hd2 : p.drop (e + sizeR r) = bodyP rs ++ t := by
      rw [← List.drop_drop, hd, List.drop_append_of_le_length (by rw [sizeR_len]; exact Nat.le_refl _), List.drop_eq_nil_of_le (by rw [sizeR_len]; exact Nat.le_refl _)]; rfl
    have := refL_make p rs (e + sizeR r) t (fun x hx => hok x (by simp [hx])) hd2 (by omega)
    rw [show e + (1 + sumV r) = e + sizeR r from rfl, this]
theorem refL_ok (p : List Int) (hb : ∀ x ∈ p, 0 ≤ x ∧ x < 256) : ∀ (k e : Nat) (rs : List (List Va)), refL p k e = some rs → rs.length = k ∧ allOk rs
  | 0, e, rs, h => by
    simp [refL] at h
    subst h
    exact ⟨rfl, fun r hr => by cases hr⟩
  | k + 1, e, rs, h => by
    rw [refL] at h
    split at h
    · cases h
    · cases hg : getRow (p.drop e) with
      | none => rw [hg] at h; cases h
      | some q =>
        obtain ⟨r, n⟩ := q
        rw [hg] at h
        simp only at h
        cases hr : refL p k (e + n) with
        | none => rw [hr] at h; cases h
        | some rs2 =>
          rw [hr] at h
          simp at h
          subst h
          obtain ⟨h1, h2⟩ := refL_ok p hb k (e + n) rs2 hr
          obtain ⟨hok, _⟩ := getRow_some (fun x hx => hb x (List.mem_of_mem_drop hx)) hg
          refine ⟨by simp [h1], fun x hx => ?_⟩
          rcases List.mem_cons.1 hx with rfl | hx
          · exact hok
          · exact h2 x hx
end Go.Proofs.YtmjckdgomlppeaaGreatDoor
end
section
namespace Go.Proofs.YtmjckdgomlppeaaGreatDoor
open Go.RowKit

theorem lenP_ge : ∀ rs : List (List Va), rs.length ≤ lenP rs
  | [] => Nat.zero_le _
  | r :: rs => by have := lenP_ge rs; rw [lenP_cons, List.length_cons]; unfold sizeR; omega
theorem fitsP_parts {rs : List (List Va)} (h : fitsP rs = true) : rs.length ≤ 255 ∧ 1 + lenP rs + 2 * rs.length ≤ 256 ∧ rs.length ≤ 85 := by
  simp [fitsP] at h
  have := lenP_ge rs
  omega
def frontP (rs : List (List Va)) : List Int := ((rs.length : Int) :: bodyP rs) ++ List.replicate (255 - 2 * rs.length - lenP rs) 0
theorem frontP_len {rs : List (List Va)} (h : fitsP rs = true) : (frontP rs).length = 256 - 2 * rs.length := by
  obtain ⟨_, h2, _⟩ := fitsP_parts h
  simp [frontP]
  have : (bodyP rs).length = lenP rs := rfl
  omega
theorem makeP_eq (rs : List (List Va)) : makeP rs = frontP rs ++ tailP (starts 1 rs) := rfl
theorem makeP_len {rs : List (List Va)} (h : fitsP rs = true) : (makeP rs).length = 256 := by
  obtain ⟨_, h2, _⟩ := fitsP_parts h
  rw [makeP_eq, List.length_append, frontP_len h, tailP_len, starts_len]; omega
theorem makeP_head (rs : List (List Va)) : (makeP rs).getD 0 0 = (rs.length : Int) := rfl
theorem makeP_front {rs : List (List Va)} (h : fitsP rs = true) : (makeP rs).take (256 - 2 * rs.length) = frontP rs := by
  rw [makeP_eq, List.take_append_of_le_length (by rw [frontP_len h]; exact Nat.le_refl _), List.take_of_length_le (by rw [frontP_len h]; exact Nat.le_refl _)]
theorem makeP_tail {rs : List (List Va)} (h : fitsP rs = true) : (makeP rs).drop (256 - 2 * rs.length) = tailP (starts 1 rs) := by
  rw [makeP_eq, List.drop_append_of_le_length (by rw [frontP_len h]; exact Nat.le_refl _), List.drop_eq_nil_of_le (by rw [frontP_len h]; exact Nat.le_refl _)]; rfl
theorem frontP_drop (rs : List (List Va)) : (frontP rs).drop 1 = bodyP rs ++ List.replicate (255 - 2 * rs.length - lenP rs) 0 := rfl
theorem frontP_rest (rs : List (List Va)) : (frontP rs).drop (1 + lenP rs) = List.replicate (255 - 2 * rs.length - lenP rs) 0 := by
  rw [← List.drop_drop, frontP_drop]
  show List.drop (bodyP rs).length _ = _
  rw [List.drop_append_of_le_length (Nat.le_refl _), List.drop_eq_nil_of_le (Nat.le_refl _)]; rfl

theorem make_openP {rs : List (List Va)} (hok : allOk rs) (h : fitsP rs = true) : openP (makeP rs) = some (rs, 1 + lenP rs) := by
  obtain ⟨_, h2, h3⟩ := fitsP_parts h
  have hl := makeP_len h
  have hpl : ∀ j s : Nat, (starts 1 rs)[j]? = some s → placeP (makeP rs) (0 + j) = (s : Int) := by
    refine of_places (makeP rs) hl (starts 1 rs) 0 (by rw [starts_len]; omega) ?_
    rw [starts_len, List.take_of_length_le (by omega), Nat.zero_add, makeP_tail h]
  have ho := openL_make (makeP rs) (256 - 2 * rs.length) rs 0 1 (List.replicate (255 - 2 * rs.length - lenP rs) 0) hok (by rw [makeP_front h, frontP_drop]) hpl
  unfold openP
  rw [if_pos hl, makeP_head, Int.toNat_natCast, if_neg (by omega), ho]
  simp only
  rw [makeP_front h, frontP_rest, if_neg (by simp)]
theorem zeros_of {l : List Int} (h : l.any (fun x => x != 0) = false) : l = List.replicate l.length 0 := by
  rw [List.eq_replicate_iff]
  refine ⟨rfl, fun x hx => ?_⟩
  rw [List.any_eq_false] at h
  simpa using h x hx
theorem openP_make {p : List Int} {rs : List (List Va)} {e : Nat} (hb : ∀ x ∈ p, 0 ≤ x ∧ x < 256) (h : openP p = some (rs, e)) : allOk rs ∧ fitsP rs = true ∧ makeP rs = p ∧ e = 1 + lenP rs := by
  unfold openP at h
  split at h
  case isFalse => cases h
  case isTrue hl =>
  split at h
  case isTrue => cases h
  case isFalse hn =>
  generalize hN : (p.getD 0 0).toNat = N at h hn
  have hp0 := hb (p.getD 0 0) (by simp [List.getD, show 0 < p.length by omega])
  have hpN : p.getD 0 0 = (N : Int) := by omega
  cases ho : openL p (256 - 2 * N) 0 N 1 with
  | none => rw [ho] at h; cases h
  | some q =>
    obtain ⟨rs', e'⟩ := q
    rw [ho] at h
    simp only at h
    split at h
    case isTrue => cases h
    case isFalse hz =>
    simp at h
    obtain ⟨rfl, rfl⟩ := h
    have hpl : (p.take (256 - 2 * N)).length = 256 - 2 * N := by simp; omega
    obtain ⟨h1, h2, h3, h4, h5, h6⟩ := openL_some p (256 - 2 * N) hb N 0 1 rs' e' (by omega) ho
    have hz' := zeros_of (by simpa using hz)
    rw [List.length_drop, hpl] at hz'
    rw [hpl] at h5
    have hfit : fitsP rs' = true := by simp [fitsP]; omega
    refine ⟨h2, hfit, ?_, h4⟩
    have ht := places_of p hl hb (starts 1 rs') 0 (by rw [starts_len]; omega) h6
    rw [starts_len, List.take_of_length_le (by omega), Nat.zero_add, h1] at ht
    have hf : p.take (256 - 2 * N) = frontP rs' := by
      have hc : p.take (256 - 2 * N) = p.getD 0 0 :: (p.take (256 - 2 * N)).drop 1 := by
        cases p with
        | nil => simp at hl
        | cons x p =>
          obtain ⟨m, hm⟩ : ∃ m, 256 - 2 * N = m + 1 := ⟨255 - 2 * N, by omega⟩
          rw [hm]; simp
      rw [hc, h3, hz', hpN, frontP, h1]
      simp only [List.cons_append]
      rw [show 256 - 2 * N - e' = 255 - 2 * N - lenP rs' by omega]
    rw [makeP_eq, ← hf, ← ht, List.take_append_drop]
theorem refP_eq {p : List Int} (hb : ∀ x ∈ p, 0 ≤ x ∧ x < 256) : refP p = (openP p).map Prod.fst := by
  cases ho : openP p with
  | some q =>
    obtain ⟨rs, e⟩ := q
    obtain ⟨h1, h2, h3, h4⟩ := openP_make hb ho
    obtain ⟨_, g2, g3⟩ := fitsP_parts h2
    have hl := makeP_len h2
    rw [← h3]
    have hr := refL_make (makeP rs) rs 1 (List.replicate (255 - 2 * rs.length - lenP rs) 0 ++ tailP (starts 1 rs)) h1 (by
      rw [makeP_eq, List.drop_append_of_le_length (by rw [frontP_len h2]; omega), frontP_drop, List.append_assoc]) (by omega)
    unfold refP
    rw [if_pos hl, makeP_head, Int.toNat_natCast, hr]
    simp [h2]
  | none =>
    unfold refP
    split
    case isFalse => rfl
    case isTrue hl =>
    cases hr : refL p (p.getD 0 0).toNat 1 with
    | none => rfl
    | some rs =>
      simp only
      split
      case isFalse => rfl
      case isTrue hx =>
      obtain ⟨hx1, hx2⟩ := hx
      have := make_openP (refL_ok p hb _ _ rs hr).2 hx1
      rw [hx2, ho] at this
      cases this
end Go.Proofs.YtmjckdgomlppeaaGreatDoor
end
section
namespace Go.Proofs.YtmjckdgomlppeaaGreatDoor
open Go.RowKit Go.Shelf

set_option maxHeartbeats 400000 in
theorem placeAt_any (i : Int) (w : World) (h0 : -1 ≤ i) (h1 : i ≤ 65536) :
    Calls Tryz.prog 96 #[.int .i64 i] w fun e w' => e = .returned (.int .i64 (256 - 2 * (i + 1))) ∧ w = w' := by
  go_enter Tryz.func96, Tryz.ntmps96
  go_wp2_with fail
  go_ret
  exact ⟨rfl, rfl⟩
theorem placeAt_is (i : Int) (a : Int) (w : World) (h0 : -1 ≤ i) (h1 : i ≤ 65536) (ha : 256 - 2 * (i + 1) = a) :
    Calls Tryz.prog 96 #[.int .i64 i] w fun e w' => e = .returned (.int .i64 a) ∧ w = w' := by
  subst ha; exact placeAt_any i w h0 h1

/-- p[e:pl:pl]. -/
theorem run_cut3 (A : Option Addr) (L c e pl : Nat) (h1 : e ≤ pl) (h2 : pl ≤ c) (W : World) :
    (Instr.slice 49 (.slice A L c) (some (.int .i64 (e : Int))) (some (.int .i64 (pl : Int))) (some (.int .i64 (pl : Int)))).run Tryz.prog W = .ok (.slice (adv A pl e) (pl - e) (pl - e)) W := by
  have ht := Tryz.underlying49
  have ht' : Tryz.prog.underlying 49 = some (.slice (Tryz.prog.elem 49)) := by simp [Program.elem, ht]
  have he : Tryz.prog.elem 49 = 5 := by simp [Program.elem, ht]
  rw [run_slice_lhm W _ _ _ _ ht' .i64 .i64 .i64 _ _ _ (by omega) (by omega) (by omega) (by omega), he, size_byte]
  simp [Result.andThen, sliced, adv]
theorem BytesAt.cut {w : World} {A : Option Addr} {bs : List Int} (h : BytesAt w A bs) (pl e : Nat) : BytesAt w (adv A pl e) ((bs.take pl).drop e) :=
  (h.take pl).drop pl e (by simp; omega)

theorem getD_at (p : List Int) (i : Nat) (h : i < p.length) : p[i]? = some (p.getD i 0) := by simp [List.getD, h]

def oddB (x : Int) : Bool := x != 0
end Go.Proofs.YtmjckdgomlppeaaGreatDoor
end
section
namespace Go.Proofs.YtmjckdgomlppeaaGreatDoor
open Go.RowKit Go.Shelf

def OpenEnd (w : World) (o : Option (List (List Va) × Nat)) (e : Ending) (w' : World) : Prop :=
  Below w.heap.size w w' ∧ match o with
  | some (rs, n) => ∃ A c, e = .returned (.tuple #[.slice A rs.length c, .int .i64 n, .int .i64 0]) ∧ RowsAt w' A rs ∧ (A = none → c = 0) ∧ rs.length ≤ c ∧ ListOwn w' 0 (.slice A rs.length c) rs
  | none => e = .returned (.tuple #[.slice none 0 0, .int .i64 0, .int .i64 40])

def afterO (rs0 : List (List Va)) : Option (List (List Va) × Nat) → Option (List (List Va) × Nat)
  | none => none
  | some (rs, e) => some (rs0 ++ rs, e)
theorem afterO_none {p : List Int} {pl j k e : Nat} (rs0 : List (List Va)) (h : getRow ((p.take pl).drop e) = none) : afterO rs0 (openL p pl j (k + 1) e) = none := by
  rw [openL, h]; rfl
theorem afterO_place {p : List Int} {pl j k e : Nat} (rs0 : List (List Va)) {r : List Va} {n : Nat} (h : getRow ((p.take pl).drop e) = some (r, n)) (hp : placeP p j ≠ e) : afterO rs0 (openL p pl j (k + 1) e) = none := by
  rw [openL, h]; simp only; rw [if_neg hp]; rfl
theorem afterO_some {p : List Int} {pl j k e : Nat} (rs0 : List (List Va)) {r : List Va} {n : Nat} (h : getRow ((p.take pl).drop e) = some (r, n)) (hp : placeP p j = e) : afterO rs0 (openL p pl j (k + 1) e) = afterO (rs0 ++ [r]) (openL p pl (j + 1) k (e + n)) := by
  rw [openL, h]; simp only; rw [if_pos hp]
  cases openL p pl (j + 1) k (e + n) with
  | none => rfl
  | some q => simp [afterO]

end Go.Proofs.YtmjckdgomlppeaaGreatDoor
end
section
namespace Go.Proofs.YtmjckdgomlppeaaGreatDoor
open Go.RowKit Go.Shelf

theorem openP_len {p : List Int} (h : p.length ≠ 256) : openP p = none := by unfold openP; rw [if_neg h]
def RowsEnd (w : World) (o : Option (List (List Va) × Nat)) (e : Ending) (w' : World) : Prop :=
  Below w.heap.size w w' ∧ match o with
  | some (rs, _) => ∃ A c, e = .returned (.tuple #[.slice A rs.length c, .int .i64 0]) ∧ RowsAt w' A rs ∧ (A = none → c = 0) ∧ ListOwn w' 0 (.slice A rs.length c) rs
  | none => e = .returned (.tuple #[.slice none 0 0, .int .i64 40])
def okP (p : List Int) : Bool := (openP p).isSome
/-- How many bytes a row may have that still fits, behind n rows that end at e. -/
def roomI (n e : Int) : Int := max 0 (256 - 2 * (n + 1) - e)
set_option maxHeartbeats 400000 in
theorem roomF_any (n e : Int) (w : World) (h0 : 0 ≤ n) (h1 : n ≤ 65536) (h2 : 0 ≤ e) (h3 : e ≤ 65536) :
    Calls Tryz.prog 94 #[.int .i64 n, .int .i64 e] w fun r w' => r = .returned (.int .i64 (roomI n e)) ∧ w = w' := by
  go_enter Tryz.func94, Tryz.ntmps94
  go_wp2_with fail
  refine (placeAt_any n _ (by omega) h1).mono ?_
  rintro r w1 ⟨rfl, rfl⟩
  go_wp2_with fail
  go_ret
  exact ⟨rfl, rfl⟩
/-- The ends of page.Get. -/
def PGetEnd (w : World) (o : Option (List (List Va) × Nat)) (i : Int) (e : Ending) (w' : World) : Prop :=
  Below w.heap.size w w' ∧ match o with
  | none => e = .returned (.tuple #[.slice none 0 0, .int .i64 40])
  | some (rs, _) => if 0 ≤ i ∧ i < rs.length then ∃ A c, e = .returned (.tuple #[.slice A (rs.getD i.toNat []).length c, .int .i64 0]) ∧ RowAt w' A (rs.getD i.toNat []) else e = .returned (.tuple #[.slice none 0 0, .int .i64 4])
end Go.Proofs.YtmjckdgomlppeaaGreatDoor
end
